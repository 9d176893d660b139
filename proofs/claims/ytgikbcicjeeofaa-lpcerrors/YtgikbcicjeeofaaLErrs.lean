/- LpcErrors: the walk of the law. -/
import Derived.Test.YtgikbcicjeeofaaLpc5
import Derived.Test.YtgikbcicjeeofaaIntsC
namespace Go.Proofs.Ytgikbcicjeeofaa
set_option linter.unusedVariables false
set_option linter.unusedSimpArgs false
open Go.RowKit Dg

theorem term_nought (c : Int) : term c 0 = 0 := by
  unfold term
  split <;> simp
theorem lguess_past0 (m : Nat) (cs : List Int) : lguess (List.replicate m 0) cs = 0 := by
  have e : ∀ k, lsum (List.replicate m 0) cs k = 0 := by
    intro k
    induction k with
    | zero => rfl
    | succ k ih =>
      simp only [lsum]
      have e : ∀ j, (List.replicate m (0 : Int)).getD j 0 = 0 := by
        intro j
        simp only [List.getD]
        by_cases h : j < m
        · simp [h]
        · rw [List.getElem?_eq_none (by simp; omega)]; rfl
      rw [ih, e, term_nought]
      rfl
  unfold lguess
  rw [e]
  rfl
theorem lrestZ_zeros (cs : List Int) (k : Nat) : ∀ m, lrestZ cs (List.replicate m 0) (List.replicate k 0) = some (List.replicate (m + k) 0) := by
  induction k with
  | zero => intro m; rfl
  | succ k ih =>
    intro m
    rw [List.replicate_succ]
    simp only [lrestZ]
    rw [lguess_past0]
    rw [if_pos (by unfold isS; omega)]
    have e : List.replicate m (0 : Int) ++ [0 + 0] = List.replicate (m + 1) 0 := by rw [List.replicate_succ']; rfl
    rw [e, ih, show m + 1 + k = m + (k + 1) by omega]
theorem zeros_allS (n : Nat) : allS (List.replicate n 0) := fun x hx => by
  have := List.eq_of_mem_replicate hx
  subst this
  unfold isS
  omega

set_option maxRecDepth 100000 in
set_option maxHeartbeats 2000000 in
theorem lerrs_any (W : World) (n v : Int) (hn : I64 n) (hv : I64 v) :
    Calls Try.prog 5 #[.int .i64 n, .int .i64 v] W fun e W' => e = .returned (.bool true) ∧ Below W.heap.size W W' := by
  obtain ⟨i0, hi, hz0, hz1, hz2⟩ := info_parts Try.info3
  obtain ⟨hv1, hv2⟩ := hv
  obtain ⟨hn1, hn2⟩ := hn
  obtain ⟨d, hd⟩ : ∃ d : Nat, (d : Int) = n % 5 := ⟨(n % 5).toNat, by omega⟩
  have HD : Hid (n % 5 = (d : Int)) := hd.symm
  have hd5 : d < 5 := by omega
  clear hd
  obtain ⟨Z, hZ⟩ : ∃ Z : List Int, Z = List.replicate (13 + d) 0 := ⟨_, rfl⟩
  have hZL : Z.length = 13 + d := by rw [hZ]; simp
  have HZ : Hid (Z = List.replicate Z.length 0) := by show _ = _; rw [hZL]; exact hZ
  have HL : Hid (13 + (d : Int) = (Z.length : Int)) := by show _ = _; omega
  have hZ12 : 12 < Z.length := by omega
  have hZ20 : Z.length ≤ 20 := by omega
  obtain ⟨Y, hY⟩ : ∃ Y : List Int, Y = List.replicate (65 + d) 0 := ⟨_, rfl⟩
  have hYL : Y.length = 65 + d := by rw [hY]; simp
  have HY : Hid (Y = List.replicate Y.length 0) := by show _ = _; rw [hYL]; exact hY
  have HYL : Hid (65 + (d : Int) = (Y.length : Int)) := by show _ = _; omega
  have hY64 : 64 < Y.length := by omega
  have hY70 : Y.length ≤ 70 := by omega
  have HYS : Hid (allS Y) := by rw [hY]; exact zeros_allS _
  obtain ⟨y, hy⟩ : ∃ y, y = 8388608 + v % 9 := ⟨_, rfl⟩
  have hy1 : 8388608 ≤ y := by omega
  have hy2 : y ≤ 8388706 := by omega
  have HV : Hid (v % 9 = y - 8388608) := by show _ = _; omega
  have hyy : 8388608 + (y - 8388608) = y := by omega
  have hbad : ¬ allS [y, 0, 0] := fun h => by have := h y (by simp); unfold isS at this; omega
  have HR1 : Hid (([], 1) = lresOut [y, 0, 0] []) := by show _ = _; unfold lresOut; rw [if_pos (.inl (fun h => by have := h.1; simp at this))]
  have HR2 : Hid (([], 1) = lresOut [y, 0, 0] [32768 + (d : Int)]) := by show _ = _; unfold lresOut; rw [if_pos (.inl (fun h => by have := h.2.2 _ (List.mem_singleton.2 rfl); unfold isC at this; omega))]
  have HR3 : Hid (([], 1) = lresOut [y, 0, 0] Z) := by show _ = _; unfold lresOut; rw [if_pos (.inl (fun h => by have := h.2.1; omega))]
  have HR4 : Hid (([], 8) = lresOut [y, 0, 0] [1, 2]) := by show _ = _; unfold lresOut; rw [if_neg (by simp [(by decide : areC [1, 2])]), if_neg hbad]
  have HR5 : Hid (([], 1) = lresOut [y, 0, 0] [1, 2, 3, 4]) := by show _ = _; unfold lresOut; rw [if_pos (.inr (by simp))]
  have HR6 : Hid (([], 4) = lresOut Y [1]) := by show _ = _; unfold lresOut; rw [if_neg (fun h => h.elim (fun h => h (by decide)) (fun h => by simp at h; rw [h] at hY64; simp at hY64)), if_pos HYS.out, if_pos hY64]
  have HR7 : Hid (([], 1) = lrestOut [y, 0, 0] [] [1, 2]) := by show _ = _; unfold lrestOut; rw [if_pos (.inr (by simp))]
  have HR8 : Hid ((([], 8) : List Int × Int) = lrestOut [8388607] [5] [4096]) := by show _ = _; decide
  have HR9 : Hid (([], 4) = lrestOut [0] Y [4096]) := by
    show _ = _
    refine (lrestOut_long (warm := [0]) (cs := [4096]) (x := List.replicate (1 + Y.length) 0) (by decide) rfl (by decide) ?_ (by simp; omega)).symm
    have e := lrestZ_zeros [4096] Y.length 1
    rw [← HY.out] at e
    exact e
  have HYI : Hid (∀ x ∈ Y, I64 x) := fun x hx => by have := HYS.out x hx; unfold isS at this; unfold I64; omega
  have HOI : Hid (∀ x ∈ ([5] : List Int), I64 x) := fun x hx => by simp at hx; unfold I64; omega
  clear hZ hZL hY hYL hy hbad
  go_enter Try.func5, Try.ntmps5
  go_wp2_with fail
  refine (within_any n 5 W hn1 hn2 (by decide) (by decide)).mono ?_
  rw [HD.out]
  rintro e w0 ⟨rfl, rfl⟩
  go_wp2_with fail
  refine (within_any v 9 W hv1 hv2 (by decide) (by decide)).mono ?_
  rw [HV.out]
  rintro e w0 ⟨rfl, rfl⟩
  have HBD : Hid (Ns (W.alloc (.cells #[.int .i64 y, .int .i64 0, .int .i64 0] 3)) (some ⟨W.heap.size, 0, none⟩) 3 [y, 0, 0]) := Ns.lit W [y, 0, 0] 3 rfl (by decide) _ rfl
  have HB1 : Hid (Below W.heap.size W (W.alloc (.cells #[.int .i64 y, .int .i64 0, .int .i64 0] 3))) := (Below.refl _ _).alloc (Nat.le_refl _) _
  go_wp2_with (at_make; go_must (refine wpList_make_full _ rfl _ _ 22 rfl (W.heap.size + 1) 3 i0 (.int .i64 0) 1 Try.underlying22 hi hz0 hz1 _ _ _ _ Z.length rfl rfl HL.out HL.out (by rw [hz2]; omega) (by unfold maxLen; omega) (by simp) ?_))
  intro w2 hown hgr
  have hb2 : Below (W.heap.size + 1) (W.alloc (.cells #[.int .i64 y, .int .i64 0, .int .i64 0] 3)) w2 := (Below.refl _ _).grown hgr (by simp) (fun k hk => by cases hk)
  have HM2 : Hid (IntsAt w2 (some ⟨W.heap.size + 1, 0, none⟩) Z) := (OwnInts.made HZ.out hown).at
  have HB2 : Hid (Below W.heap.size W w2) := HB1.out.trans (hb2.mono (by omega))
  have HBD2 : Hid (Ns w2 (some ⟨W.heap.size, 0, none⟩) 3 [y, 0, 0]) := HBD.out.mono (by rw [show (W.alloc (.cells #[.int .i64 y, .int .i64 0, .int .i64 0] 3)).heap.size = W.heap.size + 1 by simp]; exact hb2)
  have hs2 : W.heap.size ≤ w2.heap.size := HB2.out.size
  obtain ⟨ma, hma⟩ : ∃ ma : Option Addr, ma = some ⟨W.heap.size + 1, 0, none⟩ := ⟨_, rfl⟩
  obtain ⟨ba, hba⟩ : ∃ ba : Option Addr, ba = some ⟨W.heap.size, 0, none⟩ := ⟨_, rfl⟩
  rw [← hma] at HM2 ⊢
  rw [← hba] at HBD2 ⊢
  clear hown hgr hb2 hma hba HBD HB1
  go_wp2_with (at_make; go_must (refine wpList_make_full _ rfl _ _ 22 rfl w2.heap.size 3 i0 (.int .i64 0) 1 Try.underlying22 hi hz0 hz1 _ _ _ _ Y.length rfl rfl HYL.out HYL.out (by rw [hz2]; omega) (by unfold maxLen; omega) (Nat.le_refl _) ?_))
  intro w4 hown hgr
  have hb4 : Below w2.heap.size w2 w4 := (Below.refl _ _).grown hgr (Nat.le_refl _) (fun k hk => by cases hk)
  have ho4 := OwnInts.made HY.out hown
  have HLO4 : Hid (Ns w4 (some ⟨w2.heap.size, 0, none⟩) Y.length Y) := ⟨ho4.at, Nat.le_refl _, fun e => by cases e⟩
  have HBW : Hid (Below W.heap.size W w4) := HB2.out.trans (hb4.mono hs2)
  have HBD4 : Hid (Ns w4 ba 3 [y, 0, 0]) := HBD2.out.mono hb4
  have HM4 : Hid (IntsAt w4 ma Z) := HM2.out.mono hb4
  have HC4 : Hid (Below w4.heap.size w4 w4) := Below.refl _ _
  have hs4 : W.heap.size ≤ w4.heap.size := HBW.out.size
  obtain ⟨la, hla⟩ : ∃ la : Option Addr, la = some ⟨w2.heap.size, 0, none⟩ := ⟨_, rfl⟩
  rw [← hla] at HLO4 ⊢
  clear hown hgr hb4 ho4 hla HB2 HBD2 HM2
  go_wp2_with fail
  refine (lresid_any w4 ba none 3 0 [y, 0, 0] [] (HBD4.out.mono HC4.out) (IntsAt.nil _ _) (by simp) (by simp) _ HR1.out).mono ?_
  rintro e w5 hg
  obtain ⟨a5, c5, rfl, -, -, hb⟩ := hg.ok
  have HC5 : Hid (Below w4.heap.size w4 w5) := HC4.out.trans (hb.mono HC4.out.size)
  clear hg hb HR1
  go_wp2_with fail
  have HF : Hid (Ns (w5.alloc (.cells #[.int .i64 (32768 + (d : Int))] 3)) (some ⟨w5.heap.size, 0, none⟩) 1 [(32768 + (d : Int))]) := Ns.lit w5 [(32768 + (d : Int))] 1 rfl (by decide) _ rfl
  have HCA : Hid (Below w4.heap.size w4 (w5.alloc (.cells #[.int .i64 (32768 + (d : Int))] 3))) := HC5.out.alloc HC5.out.size _
  refine (lresid_any _ ba _ 3 1 [y, 0, 0] [32768 + (d : Int)] (HBD4.out.mono HCA.out) HF.out.at_ (by simp) (by simp) _ HR2.out).mono ?_
  rintro e w6 hg
  obtain ⟨a6, c6, rfl, -, -, hb⟩ := hg.ok
  have HC6 : Hid (Below w4.heap.size w4 w6) := HCA.out.trans (hb.mono HCA.out.size)
  clear hg hb HF HCA HR2
  go_wp2_with fail
  refine (lresid_any w6 ba ma 3 _ [y, 0, 0] Z (HBD4.out.mono HC6.out) (HM4.out.mono HC6.out) (by simp) (by omega) _ HR3.out).mono ?_
  rintro e w7 hg
  obtain ⟨a7, c7, rfl, -, -, hb⟩ := hg.ok
  have HC7 : Hid (Below w4.heap.size w4 w7) := HC6.out.trans (hb.mono HC6.out.size)
  clear hg hb HR3
  go_wp2_with fail
  have HF : Hid (Ns (w7.alloc (.cells #[.int .i64 1, .int .i64 2] 3)) (some ⟨w7.heap.size, 0, none⟩) 2 [1, 2]) := Ns.lit w7 [1, 2] 2 rfl (by decide) _ rfl
  have HCA : Hid (Below w4.heap.size w4 (w7.alloc (.cells #[.int .i64 1, .int .i64 2] 3))) := HC7.out.alloc HC7.out.size _
  refine (lresid_any _ ba _ 3 2 [y, 0, 0] [1, 2] (HBD4.out.mono HCA.out) HF.out.at_ (by simp) (by simp) _ HR4.out).mono ?_
  rintro e w8 hg
  obtain ⟨a8, c8, rfl, -, -, hb⟩ := hg.ok
  have HC8 : Hid (Below w4.heap.size w4 w8) := HCA.out.trans (hb.mono HCA.out.size)
  clear hg hb HF HCA HR4
  go_wp2_with fail
  have HF : Hid (Ns (w8.alloc (.cells #[.int .i64 1, .int .i64 2, .int .i64 3, .int .i64 4] 3)) (some ⟨w8.heap.size, 0, none⟩) 4 [1, 2, 3, 4]) := Ns.lit w8 [1, 2, 3, 4] 4 rfl (by decide) _ rfl
  have HCA : Hid (Below w4.heap.size w4 (w8.alloc (.cells #[.int .i64 1, .int .i64 2, .int .i64 3, .int .i64 4] 3))) := HC8.out.alloc HC8.out.size _
  refine (lresid_any _ ba _ 3 4 [y, 0, 0] [1, 2, 3, 4] (HBD4.out.mono HCA.out) HF.out.at_ (by simp) (by simp) _ HR5.out).mono ?_
  rintro e w9 hg
  obtain ⟨a9, c9, rfl, -, -, hb⟩ := hg.ok
  have HC9 : Hid (Below w4.heap.size w4 w9) := HCA.out.trans (hb.mono HCA.out.size)
  clear hg hb HF HCA HR5
  go_wp2_with fail
  have HF : Hid (Ns (w9.alloc (.cells #[.int .i64 1] 3)) (some ⟨w9.heap.size, 0, none⟩) 1 [1]) := Ns.lit w9 [1] 1 rfl (by decide) _ rfl
  have HCA : Hid (Below w4.heap.size w4 (w9.alloc (.cells #[.int .i64 1] 3))) := HC9.out.alloc HC9.out.size _
  refine (lresid_any _ la _ _ 1 Y [1] (HLO4.out.mono HCA.out) HF.out.at_ (by omega) (by simp) _ HR6.out).mono ?_
  rintro e w10 hg
  obtain ⟨a10, c10, rfl, -, -, hb⟩ := hg.ok
  have HC10 : Hid (Below w4.heap.size w4 w10) := HCA.out.trans (hb.mono HCA.out.size)
  clear hg hb HF HCA HR6
  go_wp2_with fail
  have HF : Hid (Ns (w10.alloc (.cells #[.int .i64 1, .int .i64 2] 3)) (some ⟨w10.heap.size, 0, none⟩) 2 [1, 2]) := Ns.lit w10 [1, 2] 2 rfl (by decide) _ rfl
  have HCA : Hid (Below w4.heap.size w4 (w10.alloc (.cells #[.int .i64 1, .int .i64 2] 3))) := HC10.out.alloc HC10.out.size _
  refine (lrest_any _ ba none _ 3 0 2 [y, 0, 0] [] [1, 2] (HBD4.out.mono HCA.out) (IntsAt.nil _ _) HF.out.at_ (by simp) (by simp) (by simp) (fun x hx => by simp at hx) _ HR7.out).mono ?_
  rintro e w11 hg
  obtain ⟨a11, c11, rfl, -, -, hb⟩ := hg.ok
  have HC11 : Hid (Below w4.heap.size w4 w11) := HCA.out.trans (hb.mono HCA.out.size)
  clear hg hb HF HCA HR7
  go_wp2_with fail
  have HF1 : Hid (Ns ((((w11.alloc (.cells #[.int .i64 8388607] 3)).alloc (.cells #[.int .i64 5] 3))).alloc (.cells #[.int .i64 4096] 3)) (some ⟨w11.heap.size, 0, none⟩) 1 [8388607]) := ((Ns.lit w11 [8388607] 1 rfl (by decide) _ rfl).mono ((Below.refl _ _).alloc (Nat.le_refl _) _)).mono ((Below.refl _ _).alloc (Nat.le_refl _) _)
  have HF2 : Hid (Ns ((((w11.alloc (.cells #[.int .i64 8388607] 3)).alloc (.cells #[.int .i64 5] 3))).alloc (.cells #[.int .i64 4096] 3)) (some ⟨w11.heap.size + 1, 0, none⟩) 1 [5]) := by
    have h := Ns.lit (w11.alloc (.cells #[.int .i64 8388607] 3)) [5] 1 rfl (by decide) _ rfl
    have e : (w11.alloc (.cells #[.int .i64 8388607] 3)).heap.size = w11.heap.size + 1 := by simp
    rw [e] at h
    exact h.mono ((Below.refl _ _).alloc (Nat.le_refl _) _)
  have HF3 : Hid (Ns ((((w11.alloc (.cells #[.int .i64 8388607] 3)).alloc (.cells #[.int .i64 5] 3))).alloc (.cells #[.int .i64 4096] 3)) (some ⟨w11.heap.size + 1 + 1, 0, none⟩) 1 [4096]) := by
    have h := Ns.lit ((w11.alloc (.cells #[.int .i64 8388607] 3)).alloc (.cells #[.int .i64 5] 3)) [4096] 1 rfl (by decide) _ rfl
    have e : ((w11.alloc (.cells #[.int .i64 8388607] 3)).alloc (.cells #[.int .i64 5] 3)).heap.size = w11.heap.size + 1 + 1 := by simp
    rw [e] at h
    exact h
  have HCA : Hid (Below w4.heap.size w4 ((((w11.alloc (.cells #[.int .i64 8388607] 3)).alloc (.cells #[.int .i64 5] 3))).alloc (.cells #[.int .i64 4096] 3))) := ((HC11.out.alloc HC11.out.size _).alloc (by simp; have := HC11.out.size; omega) _).alloc (by simp; have := HC11.out.size; omega) _
  refine (lrest_any _ _ _ _ 1 1 1 [8388607] [5] [4096] HF1.out HF2.out.at_ HF3.out.at_ (by simp) (by simp) (by simp) HOI.out _ HR8.out).mono ?_
  rintro e w12 hg
  obtain ⟨a12, c12, rfl, -, -, hb⟩ := hg.ok
  have HC12 : Hid (Below w4.heap.size w4 w12) := HCA.out.trans (hb.mono HCA.out.size)
  clear hg hb HF1 HF2 HF3 HCA HR8
  go_wp2_with fail
  have HF1 : Hid (Ns ((w12.alloc (.cells #[.int .i64 0] 3)).alloc (.cells #[.int .i64 4096] 3)) (some ⟨w12.heap.size, 0, none⟩) 1 [0]) := (Ns.lit w12 [0] 1 rfl (by decide) _ rfl).mono ((Below.refl _ _).alloc (Nat.le_refl _) _)
  have HF2 : Hid (Ns ((w12.alloc (.cells #[.int .i64 0] 3)).alloc (.cells #[.int .i64 4096] 3)) (some ⟨w12.heap.size + 1, 0, none⟩) 1 [4096]) := by
    have h := Ns.lit (w12.alloc (.cells #[.int .i64 0] 3)) [4096] 1 rfl (by decide) _ rfl
    have e : (w12.alloc (.cells #[.int .i64 0] 3)).heap.size = w12.heap.size + 1 := by simp
    rw [e] at h
    exact h
  have HCA : Hid (Below w4.heap.size w4 ((w12.alloc (.cells #[.int .i64 0] 3)).alloc (.cells #[.int .i64 4096] 3))) := (HC12.out.alloc HC12.out.size _).alloc (by simp; have := HC12.out.size; omega) _
  refine (lrest_any _ _ la _ 1 _ 1 [0] Y [4096] HF1.out (HLO4.out.mono HCA.out).at_ HF2.out.at_ (by simp) (by omega) (by simp) HYI.out _ HR9.out).mono ?_
  rintro e w13 hg
  obtain ⟨a13, c13, rfl, -, -, hb⟩ := hg.ok
  have HC13 : Hid (Below w4.heap.size w4 w13) := HCA.out.trans (hb.mono HCA.out.size)
  clear hg hb HF1 HF2 HCA HR9
  go_wp2_with fail
  refine (wakes6_any _).mono ?_
  rintro e w14 ⟨rfl, hb14⟩
  have HB14 : Hid (Below W.heap.size W w14) := HBW.out.trans ((HC13.out.trans (hb14.mono HC13.out.size)).mono hs4)
  clear hb14
  go_wp2
  go_ret
  exact ⟨rfl, HB14.out⟩

end Go.Proofs.Ytgikbcicjeeofaa
