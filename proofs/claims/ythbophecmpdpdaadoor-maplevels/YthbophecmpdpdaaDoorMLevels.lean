/- MapLevels. -/
import Derived.Test.YthbophecmpdpdaaDoorPart04
import Derived.Test.YthbophecmpdpdaaDoorPart05
namespace Go.Proofs.YthbophecmpdpdaaDoor
set_option linter.unusedVariables false
set_option linter.unusedSimpArgs false
open Go.RowKit Dg

/-- A map, and words beside it. -/
structure LoO (W w : World) (b g c : Nat) (m : List Bool) (gl nl cl : Nat) (T : List Nat) : Prop where
  mp : MpO W w b g c m
  row : w.ownsRow 0 35 1 (.slice (some ⟨gl, 0, none⟩) nl cl) nl (w64s T)
theorem LoO.len {W w : World} {b g c : Nat} {m : List Bool} {gl nl cl : Nat} {T : List Nat} (h : LoO W w b g c m gl nl cl T) : T.length = nl := by have := h.row.1; simpa using this
theorem LoO.newer {W w w' : World} {b g c : Nat} {m : List Bool} {gl nl cl : Nat} {T : List Nat} (h : LoO W w b g c m gl nl cl T) (hb : Below w.heap.size w w') : LoO W w' b g c m gl nl cl T :=
  ⟨h.mp.newer hb, ownsRow_other h.row (below_kept hb) (fun k e => by have := (World.ownsRow.lt h.row k e).2; omega)⟩
theorem LoO.draws {W w : World} {b g c : Nat} {m : List Bool} {gl nl cl : Nat} {T : List Nat} (h : LoO W w b g c m gl nl cl T) (n : Nat) : LoO W (w.drewN n) b g c m gl nl cl T := h.newer (below_drewN (Below.refl _ _) n)
theorem LoO.drew {W w : World} {b g c : Nat} {m : List Bool} {gl nl cl : Nat} {T : List Nat} (h : LoO W w b g c m gl nl cl T) : LoO W w.drew b g c m gl nl cl T := h.draws 1
theorem OwnWs.wide {w : World} {base g n c : Nat} {T : List Nat} (h : OwnWs w base (.slice (some ⟨g, 0, none⟩) n c) T) (hl : T.length = n) : w.ownsRow 0 35 1 (.slice (some ⟨g, 0, none⟩) n c) n (w64s T) := by
  have e : w.ownsRow base 35 1 (.slice (some ⟨g, 0, none⟩) n c) T.length (w64s T) := h
  rw [hl] at e
  exact ownsRow_base e (Nat.zero_le _)
set_option maxRecDepth 100000 in
set_option maxHeartbeats 8000000 in
theorem mlevels_any (W : World) (hT : Tab W) (n : Int) (a : Option Addr) (len cap : Nat) (zs : List Int) (k : Int) (hn : I64 n) (hr : IsRow .i64 W a len cap zs) (hk : I64 k) :
    Calls Tryd.prog 4 #[.int .i64 n, .slice a len cap, .int .i64 k] W fun e W' => e = .returned (.bool true) ∧ Below W.heap.size W W' := by
  obtain ⟨l, hl, hl64, hla, hlc, hcm, -, -⟩ := hr.ints
  unfold maxLen at hcm
  obtain ⟨hn1, hn2⟩ := hn
  obtain ⟨hk1, hk2⟩ := hk
  obtain ⟨N, hN⟩ : ∃ N : Nat, (N : Int) = 1 + n % 4096 := ⟨(1 + n % 4096).toNat, by omega⟩
  have hN1 : 1 ≤ N := by omega
  have hN4 : N ≤ 4096 := by omega
  have hN' : (1 : Int) + n % 4096 = (N : Int) := hN.symm
  obtain ⟨t, ht⟩ : ∃ t : Nat, k % 3 = (t : Int) := ⟨(k % 3).toNat, by omega⟩
  have ht3 : t < 3 := by omega
  obtain ⟨P, hP⟩ : ∃ P, P = t * N := ⟨_, rfl⟩
  have hPI : (t : Int) * (N : Int) = (P : Int) := by rw [hP, Int.natCast_mul]
  have hPb : P ≤ 8192 := by
    have h1 : t * N ≤ 2 * N := Nat.mul_le_mul_right N (by omega)
    omega
  obtain ⟨Q, hQ⟩ : ∃ Q, Q = P / 2 := ⟨_, rfl⟩
  have hQI : (P : Int) / 2 = (Q : Int) := by omega
  have hQb : Q ≤ 4096 := by omega
  obtain ⟨L, hL⟩ : ∃ L, L = (N + 63) / 64 := ⟨_, rfl⟩
  have hLI : ((N : Int) + 63) / 64 = (L : Int) := by omega
  have hL1 : 1 ≤ L := by omega
  have hL64 : L ≤ 64 := by omega
  have HLE := hid_of hL
  have HW1 := hid_of (within_any n 4096 W hn1 hn2 (by decide) (by decide))
  have HWK : Hid (∀ w : World, Calls Tryd.prog 7 #[.int .i64 k, .int .i64 3] w fun e w' => e = .returned (.int .i64 (t : Int)) ∧ w = w') := fun w => by
    have e := within_any k 3 w hk1 hk2 (by decide) (by decide)
    rw [ht] at e
    exact e
  have HWX : Hid (∀ (w : World) (x : Int), I64 x → ∃ i : Nat, i < N ∧ Calls Tryd.prog 7 #[.int .i64 x, .int .i64 (N : Int)] w fun e w' => e = .returned (.int .i64 (i : Int)) ∧ w = w') := fun w x hx => by
    have e := within_any x (N : Int) w hx.1 hx.2 (by omega) (by omega)
    have h0 := Int.emod_nonneg x (show (N : Int) ≠ 0 by omega)
    have h1 := Int.emod_lt_of_pos x (show 0 < (N : Int) by omega)
    obtain ⟨i, hi⟩ : ∃ i : Nat, x % (N : Int) = (i : Int) := ⟨(x % (N : Int)).toNat, by omega⟩
    rw [hi] at e
    exact ⟨i, by omega, e⟩
  have HN := hid_of (mo_new W W hT (Below.refl _ _) N hN1 (by omega))
  have HLA : Hid (∀ j, j < len → ∃ x, I64 x ∧ ∃ b off, a = some ⟨b, off, none⟩ ∧ ∀ w : World, Below W.heap.size W w → w.cell? ⟨b, off + j, none⟩ = some (.int .i64 x)) := fun j hj => by
    obtain ⟨x, hx⟩ : ∃ x, l[j]? = some x := ⟨_, List.getElem?_eq_getElem (by omega)⟩
    obtain ⟨b, off, e, hc⟩ := hla j x hx
    exact ⟨x, hl64 x (List.mem_of_getElem? hx), b, off, e, fun w hw => (hw.cell (p := ⟨b, off + j, none⟩) (World.block_lt_of_cell? W _ hc)).trans hc⟩
  clear hN hT hla hl64 hr hl ht hP hQ hL
  go_enter Tryd.func4, Tryd.ntmps4
  go_wp2_with fail
  refine HW1.out.mono ?_
  rintro e w1 ⟨rfl, rfl⟩
  go_wp2_with fail
  refine HN.out.mono ?_
  rintro e w1 ⟨b, g, c, rfl, ho, -, -, -⟩
  have HO := hid_of ho
  clear ho HN
  go_wp2_with fail
  go_loopw [9] (fun v wr => ∃ (j : Nat) (m : List Bool), j ≤ Q ∧ v = .int .i64 (j : Int) ∧ Hid (m.length = N) ∧ Hid (MpO W wr b g c m)) (fun v _ => Q - (intOf v).toNat)
  case atStart => exact ⟨0, _, Nat.zero_le _, rfl, List.length_replicate .., HO⟩
  case round =>
    obtain ⟨j, m, hj, rfl, hm, ho⟩ := hrel
    by_cases hjQ : j < Q
    · have HL2 : Hid ((setM m (j : Int) true).length = N) := by show _ = _; rw [length_setM]; exact hm.out
      have hjb : decide ((j : Int) < (Q : Int)) = true := decide_eq_true (by omega)
      go_wp2_with fail
      refine (HWK.out _).mono ?_
      rintro e w2 ⟨rfl, rfl⟩
      go_wp2_with fail
      refine (mo_set ho.out (j : Int) ⟨by omega, by omega⟩ true _ rfl _ rfl).mono ?_
      rintro e w2 ⟨rfl, ho2⟩
      have HO2 := hid_of ho2
      clear ho2 ho
      go_wp2_with fail
      refine ⟨?_, by (simp [intOf]) <;> omega⟩
      first
        | exact ⟨j + 1, _, by omega, by go_num, HL2, HO2⟩
        | ((repeat apply Exists.intro); refine ⟨?_, rfl⟩; exact ⟨j + 1, _, by omega, by go_num, HL2, HO2⟩)
    · have hjb : decide ((j : Int) < (Q : Int)) = false := decide_eq_false (by omega)
      have hjb2 : decide (j < Q) = false := decide_eq_false hjQ
      go_wp2_with fail
      refine (HWK.out _).mono ?_
      rintro e w2 ⟨rfl, rfl⟩
      go_wp2_with fail
      go_loopw [10] (fun v wr => ∃ (j : Nat) (m : List Bool), j ≤ len ∧ v = .int .i64 (j : Int) ∧ Hid (m.length = N) ∧ Hid (MpO W wr b g c m)) (fun v _ => len - (intOf v).toNat)
      case atStart => exact ⟨0, m, Nat.zero_le _, rfl, hm, ho⟩
      case round =>
        clear hm ho hjb hjb2 hjQ
        obtain ⟨j, m, hj, rfl, hm, ho⟩ := hrel
        have hway : (decide ((j : Int) < (len : Int)) = true ∧ decide ((j : Int) < 30) = true ∧ j < len ∧ j < 30) ∨ ((decide ((j : Int) < (len : Int)) = true ∧ decide ((j : Int) < 30) = false ∧ j < len) ∨ (decide ((j : Int) < (len : Int)) = false ∧ decide (j < len) = false ∧ True)) := by
          by_cases e1 : j < len
          · by_cases e2 : j < 30
            · exact .inl ⟨decide_eq_true (by omega), decide_eq_true (by omega), e1, e2⟩
            · exact .inr (.inl ⟨decide_eq_true (by omega), decide_eq_false (by omega), e1⟩)
          · exact .inr (.inr ⟨decide_eq_false (by omega), decide_eq_false e1, trivial⟩)
        rcases hway with ⟨hd1, hd2, hj1, hj2⟩ | hout
        · obtain ⟨x, hx, bb, off, rfl, hcl⟩ := HLA.out j hj1
          have hc := hcl wr ho.out.bel
          obtain ⟨i, hiN, hWX⟩ := HWX.out wr.drew x hx
          have HWX1 := hid_of hWX
          obtain ⟨u, hu⟩ : ∃ u, (x.tmod 2 == 0) = u := ⟨_, rfl⟩
          have HL2 : Hid ((setM m (i : Int) u).length = N) := by show _ = _; rw [length_setM]; exact hm.out
          have HST := hid_of (mo_set ho.out.drew (i : Int) ⟨by omega, by omega⟩ u _ rfl _ rfl)
          obtain ⟨hx1, hx2⟩ := hx
          clear hcl hWX ho
          go_wp2_with fail
          go_region_with (first
            | (go_at_call 7; refine HWX1.out.mono ?_; rintro e w2 ⟨rfl, rfl⟩)
            | (go_at_call 12; refine HST.out.mono ?_; rintro e w2 ⟨rfl, ho2⟩; have HO2 := hid_of ho2; clear ho2))
          all_goals
            go_wp2_with fail
            refine ⟨?_, by (simp [intOf]) <;> omega⟩
            first
              | exact ⟨j + 1, _, by omega, by go_num, HL2, HO2⟩
              | ((repeat apply Exists.intro); refine ⟨?_, rfl⟩; exact ⟨j + 1, _, by omega, by go_num, HL2, HO2⟩)
        · rcases hout with ⟨hd1, hd2, hj1⟩ | ⟨hd1, hd2, hj1⟩
          all_goals
            go_wp2_with fail
            refine (mlevel_is _ b g c m ho.out.is 0 ⟨by decide, by decide⟩ (wsOf m) rfl).mono ?_
            rintro e w3 ⟨v3, rfl, ho3, hb3⟩
            have hlw : (wsOf m).length = L := by rw [length_wsOf, hm.out, HLE.out]
            obtain ⟨gl, cl, rfl⟩ := OwnWs.form ho3 (by rw [hlw]; exact hL1)
            rw [hlw] at ho3
            rw [hlw]
            have HLO : Hid (LoO W w3 b g c m gl L cl (wsOf m)) := ⟨ho.out.newer hb3, ho3.wide hlw⟩
            have HLW := hid_of hlw
            clear ho3 hb3 hlw ho
            go_wp2_with fail
            clear hLI
            go_loopw [12] (fun v wr => ∃ i : Nat, i ≤ N ∧ v = .int .i64 (i : Int) ∧ Hid (LoO W wr b g c m gl L cl (wsOf m))) (fun v _ => N - (intOf v).toNat)
            case atStart => exact ⟨0, Nat.zero_le _, rfl, HLO⟩
            case round =>
              obtain ⟨i, hi, rfl, hlo⟩ := hrel
              by_cases hiN : i < N
              · obtain ⟨q, hq⟩ : ∃ q, q = i / 64 := ⟨_, rfl⟩
                obtain ⟨r, hr⟩ : ∃ r, r = i % 64 := ⟨_, rfl⟩
                have hqI : (i : Int) / 64 = (q : Int) := by omega
                have hrI : (i : Int) % 64 = (r : Int) := by omega
                have hr64 : r < 64 := by omega
                have hqL : q < L := by have := HLE.out; omega
                obtain ⟨x, hx⟩ : ∃ x, (wsOf m)[q]? = some x := ⟨_, List.getElem?_eq_getElem (by rw [HLW.out]; exact hqL)⟩
                have hx64 : x < 18446744073709551616 := (wsOf_is m).lt x (List.mem_of_getElem? hx)
                have hbit := (wsOf_is m).bit q x hx r hr64
                rw [show 64 * q + r = i by omega] at hbit
                have hcx := (ws_cell hlo.out.row hx).1
                have hbi := bit_int x r hx64
                rw [hbit] at hbi
                have HDR : Hid (∀ d, LoO W (wr.drewN d) b g c m gl L cl (wsOf m)) := fun d => hlo.out.draws d
                have HUS : Hid (∀ d, Calls Tryd.prog 16 #[.pointer (some ⟨b, 0, none⟩), .int .i64 (i : Int)] (wr.drewN d) fun e w' => e = .returned (.bool (dgt m i)) ∧ ∃ k, w' = wr.drewN k) := fun d =>
                  (mused_is _ b g c m (hlo.out.draws d).mp.is (i : Int) ⟨by omega, by omega⟩ (dgt m i) (by rw [usedZ_nat])).mono fun e w' ⟨h1, h2⟩ => ⟨h1, d, h2.symm⟩
                cases hz : dgt m i
                · rw [hz] at hbi HUS
                  change _ = (0 : Int) at hbi
                  clear hq hr hx hbit hz hlo
                  go_wp2_with fail
                  go_quiet (first | (go_at_call 16; exact HUS.out _))
                  go_wp2_with fail
                  refine ⟨?_, by (simp [intOf]) <;> omega⟩
                  first
                    | exact ⟨i + 1, by omega, by go_num, HDR.out _⟩
                    | ((repeat apply Exists.intro); refine ⟨?_, rfl⟩; exact ⟨i + 1, by omega, by go_num, HDR.out _⟩)
                · rw [hz] at hbi HUS
                  change _ = (1 : Int) at hbi
                  clear hq hr hx hbit hz hlo
                  go_wp2_with fail
                  go_quiet (first | (go_at_call 16; exact HUS.out _))
                  go_wp2_with fail
                  refine ⟨?_, by (simp [intOf]) <;> omega⟩
                  first
                    | exact ⟨i + 1, by omega, by go_num, HDR.out _⟩
                    | ((repeat apply Exists.intro); refine ⟨?_, rfl⟩; exact ⟨i + 1, by omega, by go_num, HDR.out _⟩)
              · have hib : decide ((i : Int) < (N : Int)) = false := decide_eq_false (by omega)
                have hib2 : decide (i < N) = false := decide_eq_false hiN
                have HT1 : Hid (wsOf m = lvlOf (1 - 1) m) := rfl
                go_wp2_with fail
                go_loopw [11, 13] (fun lv kv ws => ∃ (kk gl nl cl : Nat) (T : List Nat), kv = .int .i64 (kk : Int) ∧ lv = .slice (some ⟨gl, 0, none⟩) nl cl ∧ 1 ≤ kk ∧ kk + nl ≤ 66 ∧ 1 ≤ nl ∧ Hid (T = lvlOf (kk - 1) m) ∧ Hid (LoO W ws b g c m gl nl cl T)) (fun _ kv _ => 66 - (intOf kv).toNat)
                case atStart => exact ⟨1, gl, L, cl, wsOf m, rfl, rfl, Nat.le_refl _, by omega, hL1, HT1, hlo⟩
                case round =>
                  clear hlo HLO
                  obtain ⟨kk, gk, nl, ck, T, rfl, rfl, hkk1, hkk2, hnl1, hT, hlo⟩ := hrel
                  by_cases hnl : 1 < nl
                  · obtain ⟨nu, hnu⟩ : ∃ nu, nu = (nl + 63) / 64 := ⟨_, rfl⟩
                    have hnuI : ((nl : Int) + 63) / 64 = (nu : Int) := by omega
                    have hnu1 : 1 ≤ nu := by omega
                    have hnun : nu < nl := by omega
                    have HNU := hid_of hnu
                    obtain ⟨U, hU⟩ : ∃ U, U = wsOf (upB T) := ⟨_, rfl⟩
                    have hUl : U.length = nu := by rw [hU, length_wsOf, length_upB, hlo.out.len, hnu]
                    have hUz : U = lvlZ (kk : Int) m := by
                      have e1 : lvlZ (kk : Int) m = lvlOf kk m := by unfold lvlZ; rw [if_neg (by omega), Int.toNat_natCast]
                      rw [e1, hU, hT.out]
                      have e2 := lvlOf_next (kk - 1) m (by rw [← hT.out, hlo.out.len]; exact hnl)
                      rw [show kk - 1 + 1 = kk by omega] at e2
                      exact e2.symm
                    have HUE := hid_of hU
                    have HUL := hid_of hUl
                    have HUN : Hid (U = lvlOf (kk + 1 - 1) m) := by
                      show _ = _
                      rw [hUz]
                      unfold lvlZ
                      rw [if_neg (by omega), Int.toNat_natCast]
                      rfl
                    have HLV := hid_of (mlevel_is _ b g c m hlo.out.mp.is (kk : Int) ⟨by omega, by omega⟩ U hUz)
                    have hnlb : decide ((1 : Int) < (nl : Int)) = true := decide_eq_true (by omega)
                    clear hnu hU hUz
                    go_wp2_with fail
                    refine HLV.out.mono ?_
                    rintro e w4 ⟨v4, rfl, ho4, hb4⟩
                    obtain ⟨gu, cu, rfl⟩ := OwnWs.form ho4 (by rw [hUl]; exact hnu1)
                    rw [hUl] at ho4
                    rw [hUl]
                    have HLO4 := hid_of (hlo.out.newer hb4)
                    have HUP4 : Hid (LoO W w4 b g c m gu nu cu U) := ⟨HLO4.out.mp, ho4.wide hUl⟩
                    clear ho4 hb4 hUl hlo HLV
                    go_wp2_with fail
                    clear hnuI
                    go_loopw [15, 111] (fun _ v wt => ∃ i : Nat, i ≤ nl ∧ v = .int .i64 (i : Int) ∧ Hid (LoO W wt b g c m gk nl ck T) ∧ Hid (LoO W wt b g c m gu nu cu U)) (fun _ v _ => nl - (intOf v).toNat)
                    case atStart => exact ⟨0, Nat.zero_le _, rfl, HLO4, HUP4⟩
                    case round =>
                      clear HLO4 HUP4
                      obtain ⟨i2, hi2, rfl, hlo, hup⟩ := hrel
                      by_cases hil : i2 < nl
                      · obtain ⟨q, hq⟩ : ∃ q, q = i2 / 64 := ⟨_, rfl⟩
                        obtain ⟨r, hr⟩ : ∃ r, r = i2 % 64 := ⟨_, rfl⟩
                        have hqI : (i2 : Int) / 64 = (q : Int) := by omega
                        have hrI : (i2 : Int) % 64 = (r : Int) := by omega
                        have hr64 : r < 64 := by omega
                        have hqL : q < nu := by have := HNU.out; omega
                        obtain ⟨x, hx⟩ : ∃ x, U[q]? = some x := ⟨_, List.getElem?_eq_getElem (by rw [HUL.out]; exact hqL)⟩
                        obtain ⟨y, hy⟩ : ∃ y, T[i2]? = some y := ⟨_, List.getElem?_eq_getElem (by rw [hlo.out.len]; exact hil)⟩
                        have hcx := (ws_cell hup.out.row hx).1
                        have hcy := (ws_cell hlo.out.row hy).1
                        have hx64 : x < 18446744073709551616 := (wsOf_is (upB T)).lt x (by rw [← HUE.out]; exact List.mem_of_getElem? hx)
                        have hbit := (wsOf_is (upB T)).bit q x (by rw [← HUE.out]; exact hx) r hr64
                        rw [show 64 * q + r = i2 by omega] at hbit
                        have hdg : dgt (upB T) i2 = decide (y = 18446744073709551615) := by unfold dgt; rw [upB_get, hy]; rfl
                        have hbi := bit_int x r hx64
                        rw [hbit, hdg] at hbi
                        have HLD : Hid (∀ d, LoO W (wr.drewN d) b g c m gk nl ck T ∧ LoO W (wr.drewN d) b g c m gu nu cu U) := fun d => ⟨hlo.out.draws d, hup.out.draws d⟩
                        by_cases hyf : y = 18446744073709551615
                        · rw [decide_eq_true hyf] at hbi
                          change _ = (1 : Int) at hbi
                          have hyb : ((y : Int) == 18446744073709551615) = true := by rw [hyf]; rfl
                          clear hq hr hx hy hbit hdg hyf hlo hup
                          go_wp2_with fail
                          go_quiet (fail)
                          go_wp2_with fail
                          refine ⟨?_, by (simp [intOf]) <;> omega⟩
                          first
                            | exact ⟨i2 + 1, by omega, by go_num, (HLD.out _).1, (HLD.out _).2⟩
                            | ((repeat apply Exists.intro); refine ⟨?_, rfl⟩; exact ⟨i2 + 1, by omega, by go_num, (HLD.out _).1, (HLD.out _).2⟩)
                        · rw [decide_eq_false hyf] at hbi
                          change _ = (0 : Int) at hbi
                          have hyb : ((y : Int) == 18446744073709551615) = false := beq_eq_false_iff_ne.2 (by omega)
                          clear hq hr hx hy hbit hdg hyf hlo hup
                          go_wp2_with fail
                          go_quiet (fail)
                          go_wp2_with fail
                          refine ⟨?_, by (simp [intOf]) <;> omega⟩
                          first
                            | exact ⟨i2 + 1, by omega, by go_num, (HLD.out _).1, (HLD.out _).2⟩
                            | ((repeat apply Exists.intro); refine ⟨?_, rfl⟩; exact ⟨i2 + 1, by omega, by go_num, (HLD.out _).1, (HLD.out _).2⟩)
                      · have hilb : decide ((i2 : Int) < (nl : Int)) = false := decide_eq_false (by omega)
                        have hilb2 : decide (i2 < nl) = false := decide_eq_false hil
                        go_wp2_with fail
                        refine ⟨?_, by (simp [intOf]) <;> omega⟩
                        first
                          | exact ⟨kk + 1, gu, nu, cu, U, by go_num, rfl, by omega, by omega, hnu1, HUN, hup⟩
                          | ((repeat apply Exists.intro); refine ⟨?_, rfl⟩; exact ⟨kk + 1, gu, nu, cu, U, by go_num, rfl, by omega, by omega, hnu1, HUN, hup⟩)
                  · obtain rfl : nl = 1 := by omega
                    go_wp2_with fail
                    refine (wakes11_any _ hlo.out.mp.is.tab).mono ?_
                    rintro e w5 ⟨rfl, hb5⟩
                    have HB5 : Hid (Below W.heap.size W w5) := hlo.out.mp.bel.trans (hb5.mono hlo.out.mp.bel.size)
                    clear hb5
                    go_wp2_with fail
                    go_ret
                    exact ⟨rfl, HB5.out⟩

end Go.Proofs.YthbophecmpdpdaaDoor
