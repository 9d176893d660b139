/- FixedErrors: the walk of the law. -/
import Derived.Test.YtepnjglhchbknaaXMath
namespace Go.Proofs.Ytepnjglhchbknaa
set_option linter.unusedVariables false
set_option linter.unusedSimpArgs false
open Go.RowKit Dg

theorem made_ints (n : Nat) : (madeCells (Value.int .i64 0).cells (n * 1)).toList = i64s (List.replicate n 0) := by
  apply List.ext_getElem?
  intro k
  by_cases hk : k < n
  · simp [madeCells, i64s, hk, Value.cells, Nat.mod_one]
  · rw [List.getElem?_eq_none (by simp [madeCells]; omega), List.getElem?_eq_none (by simp; omega)]
theorem zeros_S (n : Nat) : allS (List.replicate n 0) := fun x hx => by
  have := List.eq_of_mem_replicate hx
  subst this
  unfold isS
  omega
theorem resOut_long (l : List Int) (o : Int) (h0 : 0 ≤ o) (h4 : o ≤ 4) (hl : 64 < l.length) (hS : allS l) : ([], 4) = resOut l o := by
  unfold resOut
  rw [if_neg (by omega), if_pos hS, if_pos hl]
theorem resOut_bad (l : List Int) (o : Int) (h0 : 0 ≤ o) (h4 : o ≤ 4) (hl : o ≤ (l.length : Int)) (hS : ¬ allS l) : ([], 8) = resOut l o := by
  unfold resOut
  rw [if_neg (by omega), if_neg hS]
theorem resOut_arg (l : List Int) (o : Int) (h : o < 0 ∨ 4 < o) : ([], 1) = resOut l o := by
  unfold resOut
  rw [if_pos (by omega)]
theorem restZ_zeros (m : Nat) : ∀ x : List Int, restZ [] x (List.replicate m 0) = some (x ++ List.replicate m 0) := by
  induction m with
  | zero => intro x; simp [restZ]
  | succ m ih =>
    intro x
    rw [List.replicate_succ]
    simp only [restZ]
    have e : guessZ x [] + 0 = 0 := rfl
    rw [e, if_pos (by unfold isS; omega), ih]
    simp
theorem restOut_zeros (m : Nat) (h : 64 < m) : ([], 4) = restOut [] (List.replicate m 0) := by
  have hS : allS [] := fun x hx => by simp at hx
  refine (restOut_long (x := List.replicate m 0) (by simp) hS ?_ (by simpa using h)).symm
  have e : coefs (([] : List Int).length : Int) = [] := rfl
  rw [e, restZ_zeros]
  simp

set_option maxRecDepth 100000 in
set_option maxHeartbeats 2000000 in
theorem xerrs_any (W : World) (o v n : Int) (ho : I64 o) (hv : I64 v) (hn : I64 n) :
    Calls Try.prog 5 #[.int .i64 o, .int .i64 v, .int .i64 n] W fun e W' => e = .returned (.bool true) ∧ Below W.heap.size W W' := by
  obtain ⟨i0, hi, hz0, hz1, hz2⟩ := info_parts Try.info3
  obtain ⟨ho1, ho2⟩ := ho
  obtain ⟨hv1, hv2⟩ := hv
  obtain ⟨hn1, hn2⟩ := hn
  obtain ⟨M, hM⟩ : ∃ M : Nat, (M : Int) = 65 + n % 5 := ⟨(65 + n % 5).toNat, by omega⟩
  obtain ⟨Z, hZ⟩ : ∃ Z : List Int, Z = List.replicate M 0 := ⟨_, rfl⟩
  have hZL : Z.length = M := by rw [hZ]; simp
  have HZ : Hid (Z = List.replicate Z.length 0) := by show _ = _; rw [hZL]; exact hZ
  have HL : Hid (65 + n % 5 = (Z.length : Int)) := by show _ = _; omega
  have hZ64 : 64 < Z.length := by omega
  have hZ70 : Z.length ≤ 70 := by omega
  have HZS : Hid (allS Z) := by rw [hZ]; exact zeros_S M
  obtain ⟨k, hk⟩ : ∃ k : Nat, (k : Int) = o % 5 := ⟨(o % 5).toNat, by omega⟩
  have HK : Hid (o % 5 = (k : Int)) := hk.symm
  have hk4 : k ≤ 4 := by omega
  obtain ⟨q, hq⟩ : ∃ q : Nat, (q : Int) = o % 50 := ⟨(o % 50).toNat, by omega⟩
  have HQ : Hid (o % 50 = (q : Int)) := hq.symm
  have hq50 : q < 50 := by omega
  obtain ⟨y, hy⟩ : ∃ y, y = 8388608 + v % 99 := ⟨_, rfl⟩
  have hy1 : 8388608 ≤ y := by omega
  have hy2 : y ≤ 8388706 := by omega
  have HV : Hid (v % 99 = y - 8388608) := by show _ = _; omega
  obtain ⟨BL, hBL⟩ : ∃ BL, BL = Z ++ [-8388609] := ⟨_, rfl⟩
  have HBL := hid_of hBL
  have hBLl : BL.length ≤ 100 := by rw [hBL]; simp; omega
  have HR1 : Hid (([], 4) = resOut Z (k : Int)) := resOut_long Z k (by omega) (by omega) hZ64 HZS.out
  have HR2 : Hid (([], 8) = resOut [1, 2, 3, 4, y] (k : Int)) := resOut_bad _ _ (by omega) (by omega) (by simp; omega) (fun h => by have := h y (by simp); unfold isS at this; omega)
  have HR3 : Hid (([], 8) = resOut BL 2) := resOut_bad _ _ (by decide) (by decide) (by rw [hBL]; simp; omega) (fun h => by have := h (-8388609) (by rw [hBL]; simp); unfold isS at this; omega)
  have HR4 : Hid (([], 1) = resOut BL (5 + (q : Int))) := resOut_arg _ _ (by omega)
  have HR5 : Hid (([], 1) = resOut [1, 2, 3, 4, y] (-1 - (q : Int))) := resOut_arg _ _ (by omega)
  have HR6 : Hid (([], 1) = restOut [0, 0, 0, 0, 0] [1, 2, 3, 4, y]) := by show _ = _; unfold restOut; rw [if_pos (by simp)]
  have HR7 : Hid ((([], 8) : List Int × Int) = restOut [8388607] [1]) := by show _ = _; decide
  have HR8 : Hid (([], 4) = restOut [] Z) := by show _ = _; rw [HZ.out]; exact restOut_zeros _ hZ64
  have HZI : Hid (∀ x ∈ Z, I64 x) := fun x hx => by have := HZS.out x hx; unfold isS at this; unfold I64; omega
  have HYI : Hid (∀ x ∈ [1, 2, 3, 4, y], I64 x) := fun x hx => by simp at hx; unfold I64; omega
  have HOI : Hid (∀ x ∈ ([1] : List Int), I64 x) := fun x hx => by simp at hx; unfold I64; omega
  have hyy : 8388608 + (y - 8388608) = y := by omega
  clear hM hZ hZL hk hq hy hBL
  go_enter Try.func5, Try.ntmps5
  go_wp2_with fail
  refine (within_any n 5 W hn1 hn2 (by decide) (by decide)).mono ?_
  rintro e w0 ⟨rfl, rfl⟩
  go_wp2_with (at_make; go_must (refine wpList_make_full _ rfl _ _ 23 rfl W.heap.size 3 i0 (.int .i64 0) 1 Try.underlying23 hi hz0 hz1 _ _ _ _ Z.length rfl rfl HL.out HL.out (by rw [hz2]; omega) (by unfold maxLen; omega) (Nat.le_refl _) ?_))
  intro w1 hown hgr
  have HB1 : Hid (Below W.heap.size W w1) := (Below.refl _ _).grown hgr (Nat.le_refl _) (fun k hk => by cases hk)
  have ho1' : OwnInts w1 W.heap.size (.slice (some ⟨W.heap.size, 0, none⟩) Z.length Z.length) Z := by
    show World.ownsRow _ _ _ _ _ _ _
    have e := made_ints Z.length
    rw [← HZ.out, Nat.mul_one] at e
    rw [← e]; exact hown
  have HLO : Hid (Ns w1 (some ⟨W.heap.size, 0, none⟩) Z.length Z) := ⟨ho1'.at, Nat.le_refl _, fun e => by cases e⟩
  have hs1 : W.heap.size ≤ w1.heap.size := HB1.out.size
  obtain ⟨la, hla⟩ : ∃ la : Option Addr, la = some ⟨W.heap.size, 0, none⟩ := ⟨_, rfl⟩
  have HLA := hid_of hla
  rw [← hla] at HLO ⊢
  clear hown hgr ho1' hla
  go_wp2_with fail
  refine (within_any v 99 w1 hv1 hv2 (by decide) (by decide)).mono ?_
  rw [HV.out]
  rintro e w0 ⟨rfl, rfl⟩
  go_wp2_with fail
  have HBD : Hid (Ns (w1.alloc (.cells #[.int .i64 1, .int .i64 2, .int .i64 3, .int .i64 4, .int .i64 y] 3)) (some ⟨w1.heap.size, 0, none⟩) 5 [1, 2, 3, 4, y]) := Ns.lit w1 [1, 2, 3, 4, y] 5 rfl (by decide) _ rfl
  have HB2 : Hid (Below W.heap.size W (w1.alloc (.cells #[.int .i64 1, .int .i64 2, .int .i64 3, .int .i64 4, .int .i64 y] 3))) := HB1.out.alloc hs1 _
  have HLO2 : Hid (Ns (w1.alloc (.cells #[.int .i64 1, .int .i64 2, .int .i64 3, .int .i64 4, .int .i64 y] 3)) la Z.length Z) := HLO.out.mono ((Below.refl _ _).alloc (Nat.le_refl _) _)
  generalize w1.alloc (.cells #[.int .i64 1, .int .i64 2, .int .i64 3, .int .i64 4, .int .i64 y] 3) = w2 at *
  obtain ⟨ba, hba⟩ : ∃ ba : Option Addr, ba = some ⟨w1.heap.size, 0, none⟩ := ⟨_, rfl⟩
  rw [← hba] at HBD ⊢
  have hs2 : W.heap.size ≤ w2.heap.size := HB2.out.size
  clear hba HLO HB1
  refine (copyInt_any w2 la Z.length Z HLO2.out.at_ (by omega) (.inr ⟨_, HLA.out⟩)).mono ?_
  rintro e w3 ⟨v3, rfl, hv3, hb3⟩
  have HV3 : Hid (OwnInts w3 w2.heap.size v3 Z) := hv3
  have HB3 : Hid (Below w2.heap.size w2 w3) := hb3
  have hs3 : w2.heap.size ≤ w3.heap.size := hb3.size
  clear hv3 hb3
  go_wp2_with (at_builtin; go_must (refine wpList_append_int_as _ rfl (.tmp 35) (.tmp 36) 23 rfl w2.heap.size i0 Try.underlying23 hi hz0 hz1 hz2 _ Z BL rfl HV3.out _ HBL.out rfl (by omega) hs3 ?_))
  intro ya yc w4 h4 hya hb4
  have HBLN : Hid (Ns w4 ya yc BL) := by obtain ⟨a', c', e, hn, _, _⟩ := h4.out.ns; cases e; exact hn
  have HB4 : Hid (Below w2.heap.size w2 w4) := HB3.out.trans hb4.out
  have HLO4 : Hid (Ns w4 la Z.length Z) := HLO2.out.mono HB4.out
  have HBD4 : Hid (Ns w4 ba 5 [1, 2, 3, 4, y]) := HBD.out.mono HB4.out
  have HBW : Hid (Below W.heap.size W w4) := HB2.out.trans (HB4.out.mono hs2)
  have HC4 : Hid (Below w4.heap.size w4 w4) := Below.refl _ _
  have hs4 : W.heap.size ≤ w4.heap.size := HBW.out.size
  clear h4 hya hb4 HLO2 HBD HB2 HB3 HB4 HV3 HLA
  go_wp2_with fail
  refine (within_any o 5 w4 ho1 ho2 (by decide) (by decide)).mono ?_
  rw [HK.out]
  rintro e w0 ⟨rfl, rfl⟩
  go_wp2_with fail
  refine (fresid_any w4 la Z.length Z _ (HLO4.out.mono HC4.out) (by omega) _ HR1.out).mono ?_
  rintro e w5 hg
  obtain ⟨a5, c5, rfl, -, -, hb⟩ := hg.ok
  have HC5 : Hid (Below w4.heap.size w4 w5) := HC4.out.trans (hb.mono HC4.out.size)
  clear hg hb HR1
  go_wp2_with fail
  refine (within_any o 5 w5 ho1 ho2 (by decide) (by decide)).mono ?_
  rw [HK.out]
  rintro e w0 ⟨rfl, rfl⟩
  go_wp2_with fail
  refine (fresid_any w5 ba 5 [1, 2, 3, 4, y] _ (HBD4.out.mono HC5.out) (by simp) _ HR2.out).mono ?_
  rintro e w6 hg
  obtain ⟨a6, c6, rfl, -, -, hb⟩ := hg.ok
  have HC6 : Hid (Below w4.heap.size w4 w6) := HC5.out.trans (hb.mono HC5.out.size)
  clear hg hb HR2
  go_wp2_with fail
  refine (fresid_any w6 ya yc BL _ (HBLN.out.mono HC6.out) (by omega) _ HR3.out).mono ?_
  rintro e w7 hg
  obtain ⟨a7, c7, rfl, -, -, hb⟩ := hg.ok
  have HC7 : Hid (Below w4.heap.size w4 w7) := HC6.out.trans (hb.mono HC6.out.size)
  clear hg hb HR3
  go_wp2_with fail
  refine (within_any o 50 w7 ho1 ho2 (by decide) (by decide)).mono ?_
  rw [HQ.out]
  rintro e w0 ⟨rfl, rfl⟩
  go_wp2_with fail
  refine (fresid_any w7 ya yc BL _ (HBLN.out.mono HC7.out) (by omega) _ HR4.out).mono ?_
  rintro e w8 hg
  obtain ⟨a8, c8, rfl, -, -, hb⟩ := hg.ok
  have HC8 : Hid (Below w4.heap.size w4 w8) := HC7.out.trans (hb.mono HC7.out.size)
  clear hg hb HR4
  go_wp2_with fail
  refine (within_any o 50 w8 ho1 ho2 (by decide) (by decide)).mono ?_
  rw [HQ.out]
  rintro e w0 ⟨rfl, rfl⟩
  go_wp2_with fail
  refine (fresid_any w8 ba 5 [1, 2, 3, 4, y] _ (HBD4.out.mono HC8.out) (by simp) _ HR5.out).mono ?_
  rintro e w9 hg
  obtain ⟨a9, c9, rfl, -, -, hb⟩ := hg.ok
  have HC9 : Hid (Below w4.heap.size w4 w9) := HC8.out.trans (hb.mono HC8.out.size)
  clear hg hb HR5
  go_wp2_with fail
  have HF : Hid (Ns (w9.alloc (.cells #[.int .i64 0, .int .i64 0, .int .i64 0, .int .i64 0, .int .i64 0] 3)) (some ⟨w9.heap.size, 0, none⟩) 5 [0, 0, 0, 0, 0]) := Ns.lit w9 [0, 0, 0, 0, 0] 5 rfl (by decide) _ rfl
  have HCA : Hid (Below w4.heap.size w4 (w9.alloc (.cells #[.int .i64 0, .int .i64 0, .int .i64 0, .int .i64 0, .int .i64 0] 3))) := HC9.out.alloc HC9.out.size _
  refine (frest_any _ _ ba 5 5 [0, 0, 0, 0, 0] [1, 2, 3, 4, y] HF.out (HBD4.out.mono HCA.out).at_ (by simp) (by simp) HYI.out _ HR6.out).mono ?_
  rintro e w10 hg
  obtain ⟨a10, c10, rfl, -, -, hb⟩ := hg.ok
  have HC10 : Hid (Below w4.heap.size w4 w10) := HCA.out.trans (hb.mono HCA.out.size)
  clear hg hb HF HCA HR6
  go_wp2_with fail
  have HF : Hid (Ns ((w10.alloc (.cells #[.int .i64 8388607] 3)).alloc (.cells #[.int .i64 1] 3)) (some ⟨w10.heap.size, 0, none⟩) 1 [8388607]) := (Ns.lit w10 [8388607] 1 rfl (by decide) _ rfl).mono ((Below.refl _ _).alloc (Nat.le_refl _) _)
  have HG : Hid (Ns ((w10.alloc (.cells #[.int .i64 8388607] 3)).alloc (.cells #[.int .i64 1] 3)) (some ⟨w10.heap.size + 1, 0, none⟩) 1 [1]) := by
    have h := Ns.lit (w10.alloc (.cells #[.int .i64 8388607] 3)) [1] 1 rfl (by decide) _ rfl
    have e : (w10.alloc (.cells #[.int .i64 8388607] 3)).heap.size = w10.heap.size + 1 := by simp
    rw [e] at h
    exact h
  have HCA : Hid (Below w4.heap.size w4 ((w10.alloc (.cells #[.int .i64 8388607] 3)).alloc (.cells #[.int .i64 1] 3))) := (HC10.out.alloc HC10.out.size _).alloc (by simp; have := HC10.out.size; omega) _
  refine (frest_any _ _ _ 1 1 [8388607] [1] HF.out HG.out.at_ (by simp) (by simp) HOI.out _ HR7.out).mono ?_
  rintro e w11 hg
  obtain ⟨a11, c11, rfl, -, -, hb⟩ := hg.ok
  have HC11 : Hid (Below w4.heap.size w4 w11) := HCA.out.trans (hb.mono HCA.out.size)
  clear hg hb HF HG HCA HR7
  go_wp2_with fail
  refine (frest_any w11 none la 0 Z.length [] Z ⟨IntsAt.nil _ _, Nat.le_refl _, fun _ => rfl⟩ (HLO4.out.mono HC11.out).at_ (by simp) (by omega) HZI.out _ HR8.out).mono ?_
  rintro e w12 hg
  obtain ⟨a12, c12, rfl, -, -, hb⟩ := hg.ok
  have HC12 : Hid (Below w4.heap.size w4 w12) := HC11.out.trans (hb.mono HC11.out.size)
  clear hg hb HR8
  go_wp2_with fail
  refine (wakes5_any _).mono ?_
  rintro e w13 ⟨rfl, hb13⟩
  have HB13 : Hid (Below W.heap.size W w13) := HBW.out.trans ((HC12.out.trans (hb13.mono HC12.out.size)).mono hs4)
  clear hb13
  go_wp2
  go_ret
  exact ⟨rfl, HB13.out⟩

end Go.Proofs.Ytepnjglhchbknaa
