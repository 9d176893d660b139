/- The texts RfPlay, one behind the other. -/
import Derived.Test.YtcbenfmffedioaaPart04
import Derived.Deep.CutRange
import Derived.BigQuiet

/- 'play': the walk. -/
namespace Go.Proofs.Ytcbenfmffedioaa
set_option linter.unusedVariables false
set_option linter.unusedSimpArgs false
open Go.RowKit Dg

theorem sumTo_mono (C : List Nat) {j l : Nat} (h : j ≤ l) : sumTo C j ≤ sumTo C l := by
  induction h with
  | refl => exact Nat.le_refl _
  | step _ ih => exact Nat.le_trans ih (Nat.le_add_right _ _)
set_option maxRecDepth 100000 in
set_option maxHeartbeats 16000000 in
theorem play12_any {Ti : TbP} (R : Rfs Ti) (OF : RfOf Ti) (OW : RfOwned Ti) (X : Nat → Prop) (w : World) (b gr cr n : Nat) (C0 : List Nat) (h : Pr Ti X w b gr cr n C0 C0) (B0 : Nat) (hB0 : B0 ≤ w.heap.size) (hX : ∀ k, k < B0 → X k)
    (a : Option Addr) (len cap : Nat) (L : List Act2) (hL : L.length = len) (hle : len ≤ 9223372036854775807) (hA : ActsR w B0 a L) (s : Nat) (hs : s ≤ 500000) (hC0 : sumC C0 ≤ s) :
    Calls Try.prog 15 #[.pointer (some ⟨b, 0, none⟩), .slice (some ⟨gr, 0, none⟩) n cr, .slice a len cap] w fun e w' => e = .returned (.bool true) ∧ (∃ C, sumC C ≤ s + 240 ∧ Pr Ti X w' b gr cr n C C) ∧ Kept (fun k => ¬ X k) w w' := by
  have hn4 : n ≤ 4096 := by have := (h.tb.len R).2; have := h.len; omega
  have HA := hid_of hA
  have HP := hid_of h
  have HX := hid_of hX
  have HS0 : Hid (sumC C0 ≤ s + 8 * 0) := hC0
  have HLL := hid_of hL
  clear h hA hX hL hC0
  go_enter Try.func15, Try.ntmps15
  go_wp2_with fail
  go_loopw [7] (fun v wr => ∃ (i : Nat) (C : List Nat), i ≤ len ∧ i ≤ 30 ∧ v = .int .i64 (i : Int) ∧ Hid (sumC C ≤ s + 8 * i) ∧ Hid (Pr Ti X wr b gr cr n C C) ∧ Hid (Kept (fun k => ¬ X k) w wr)) (fun v _ => len - (intOf v).toNat)
  case atStart => exact ⟨0, C0, Nat.zero_le _, Nat.zero_le _, rfl, HS0, HP, Kept.refl _ _⟩
  case round =>
    obtain ⟨i, C, hi, hi30, rfl, hsum, hp, hk⟩ := hrel
    have hway : (decide ((i : Int) < (len : Int)) = true ∧ decide ((i : Int) < 30) = true ∧ i < len ∧ i < 30) ∨ ((decide ((i : Int) < (len : Int)) = true ∧ decide ((i : Int) < 30) = false ∧ i < len) ∨ (decide ((i : Int) < (len : Int)) = false ∧ decide (i < len) = false ∧ True)) := by
      by_cases e1 : i < len
      · by_cases e2 : i < 30
        · exact .inl ⟨decide_eq_true (by omega), decide_eq_true (by omega), e1, e2⟩
        · exact .inr (.inl ⟨decide_eq_true (by omega), decide_eq_false (by omega), e1⟩)
      · exact .inr (.inr ⟨decide_eq_false (by omega), decide_eq_false e1, trivial⟩)
    rcases hway with ⟨hd1, hd2, hil, hi2⟩ | hout
    · obtain ⟨t, ht⟩ : ∃ t, L[i]? = some t := ⟨_, List.getElem?_eq_getElem (by rw [HLL.out]; exact hil)⟩
      have hta := (HA.out i t ht).kept hB0 hk.out (fun k e f => f (HX.out k e))
      obtain ⟨xd, xi, xl⟩ := t
      obtain ⟨bb, off, la, lc, rfl, hbb, ⟨c0, c1, c2⟩, ⟨⟨i1, i2⟩, i3, i4⟩, hla, hl64, hlb, hlc, hlm, hln⟩ := hta
      simp only [] at c0 c1 c2 i1 i2 i3 i4 hla hl64 hlb hlc hln
      obtain ⟨nl, hnl⟩ : ∃ nl, nl = xl.length := ⟨_, rfl⟩
      rw [← hnl] at c2 hlc hln
      obtain ⟨w1, hw1⟩ : ∃ w1, w1 = wr.alloc (.cells #[.int .i64 xd, .int .i64 xi, .slice la nl lc] 47) := ⟨_, rfl⟩
      obtain ⟨bx, hbx⟩ : ∃ bx, bx = wr.heap.size := ⟨_, rfl⟩
      have hb1 : Below wr.heap.size wr w1 := by
        have e : Kept (fun _ => False) wr w1 := by rw [hw1]; exact Kept.alloc _ _ _
        exact ⟨e.os, e.tape, e.output, e.size, fun k hk => e.block k hk (fun h => h)⟩
      have HBX : Hid (w1.heap[bx]? = some (.cells #[.int .i64 xd, .int .i64 xi, .slice la nl lc] 47 (0, 0))) := by show _ = _; rw [hw1, hbx]; exact heap_alloc_new wr _
      have hbl : bx < w1.heap.size := by rw [hw1, hbx]; simp
      have hgx : gr < bx := by rw [hbx]; exact hp.out.lt.1
      have HC : Hid (∀ w' Y, Kept Y w1 w' → ¬ Y bx → w'.cell? ⟨bx, 0, none⟩ = some (.int .i64 xd) ∧ w'.cell? ⟨bx, 1, none⟩ = some (.int .i64 xi) ∧ w'.cell? ⟨bx, 2, none⟩ = some (.slice la nl lc)) := fun w' Y hkY hY => by
        have e : w'.heap[bx]? = some (.cells #[.int .i64 xd, .int .i64 xi, .slice la nl lc] 47 (0, 0)) := by rw [hkY.block bx hbl hY]; exact HBX.out
        refine ⟨?_, ?_, ?_⟩ <;> (unfold World.cell?; rw [e]; rfl)
      have HP1 : Hid (Pr Ti X w1 b gr cr n C C) := hp.out.newer R hb1
      have HK1 : Hid (Kept (fun k => ¬ X k) w w1) := hk.out.trans ⟨hb1.os, hb1.tape, hb1.output, hb1.size, fun k hkk _ => hb1.block k hkk⟩
      have HIA : Hid (IntsAt w1 la xl) := hla.mono hb1
      have HI : Hid ((∀ y ∈ xl, I64 y) ∧ (xl ≠ [] → ∀ y, la = some y → X y.block) ∧ nl = xl.length) := ⟨hl64, fun hne y hy => HX.out _ (hlb hne y hy), hnl⟩
      have hn1 : n = C.length := hp.out.len.symm
      have HN1 := hid_of hn1
      have hsb : sumC C ≤ 1000000 := by have := hsum.out; omega
      have HSB := hid_of hsb
      obtain ⟨x0, x1, x2⟩ := HC.out w1 _ (Kept.refl (fun _ => False) _) (fun h => h)
      unfold maxLen at hlm
      clear hla hl64 hlb hnl hbb hb1 hn1 hsb hp hk
      obtain ⟨d, hd⟩ : ∃ d, d = xd % 3 := ⟨_, rfl⟩
      have HW : Hid (Calls Try.prog 8 #[.int .i64 xd, .int .i64 3] w1 fun e w' => e = .returned (.int .i64 d) ∧ w1 = w') := by rw [hd]; exact within_any xd 3 w1 i1 i2 (by decide) (by decide)
      clear hd
      go_wp2_with fail
      rw [← hw1, ← hbx]
      clear hw1 hbx c0 c1 c2
      refine HW.out.mono ?_
      rintro e w2 ⟨rfl, rfl⟩
      go_upto_if 37 with fail
      go_cut [] from 9 to 184 (fun wx => ∃ C2, Hid (sumC C2 ≤ s + 8 * (i + 1)) ∧ Hid (Pr Ti X wx b gr cr n C2 C2) ∧ Hid (Kept (fun k => ¬ X k) w wx))
      case first =>
        by_cases hd2' : d = 2
        · as_aux_lemma =>
          have hdb : (d == 2) = true := beq_iff_eq.2 hd2'
          clear hd2'
          have hno : ∀ _ : ¬ (isSec C xi ∧ 0 < C.getD xi.toNat 0), Hid (Calls Try.prog 13 #[.pointer (some ⟨b, 0, none⟩), .int .i64 xi] w1 fun e w' => e = .returned (.tuple #[.int .i64 0, .bool false]) ∧ Pr Ti X w' b gr cr n C C ∧ Kept (fun k => ¬ X k) w1 w') := fun h => by
            obtain ⟨e1, e2⟩ := drop_no h
            exact pr_drop R HP1.out xi ⟨i3, i4⟩ HSB.out 0 false e1 C e2.symm 0 rfl
          rcases (by omega : xi < 0 ∨ (0 ≤ xi ∧ (n : Int) ≤ xi) ∨ (0 ≤ xi ∧ xi < (n : Int))) with hlo | ⟨hp1, hp2⟩ | ⟨hp1, hp2⟩
          · have hq1 : decide (0 ≤ xi) = false := decide_eq_false (by omega)
            have HD := hno (fun h => by have := h.1; unfold isSec at this; omega)
            clear hno
            go_wp2_with fail
            refine HD.out.mono ?_
            rintro e w2 ⟨rfl, hp2, hk2⟩
            have HP2 := hid_of hp2
            have HK2 := hid_of (HK1.out.trans hk2)
            clear hp2 hk2
            go_wp2_with fail
            go_meet
            exact ⟨C, by have := hsum.out; show _ ≤ _; omega, HP2, HK2⟩
          · have hq1 : decide (0 ≤ xi) = true := decide_eq_true (by omega)
            have hq2 : decide (xi < (n : Int)) = false := decide_eq_false (by omega)
            have HD := hno (fun h => by have := h.1; unfold isSec at this; have := HN1.out; omega)
            clear hno
            go_wp2_with fail
            refine HD.out.mono ?_
            rintro e w2 ⟨rfl, hp2, hk2⟩
            have HP2 := hid_of hp2
            have HK2 := hid_of (HK1.out.trans hk2)
            clear hp2 hk2
            go_wp2_with fail
            go_meet
            exact ⟨C, by have := hsum.out; show _ ≤ _; omega, HP2, HK2⟩
          · obtain ⟨jn, hjn⟩ : ∃ jn : Nat, xi = (jn : Int) := ⟨xi.toNat, by omega⟩
            subst hjn
            have hjl : jn < n := by omega
            have hq1 : decide (0 ≤ (jn : Int)) = true := decide_eq_true (by omega)
            have hq2 : decide ((jn : Int) < (n : Int)) = true := decide_eq_true (by omega)
            obtain ⟨cj, hcj⟩ : ∃ cj, C[jn]? = some cj := ⟨_, List.getElem?_eq_getElem (by rw [← HN1.out]; exact hjl)⟩
            have hcg : C.getD jn 0 = cj := by rw [List.getD_eq_getElem?_getD, hcj]; rfl
            obtain ⟨hc1, hc2⟩ := HP1.out.cell hcj
            have hcb : cj ≤ 1000000 := by rw [← hcg]; exact Nat.le_trans (getD_le_sumC jn) HSB.out
            have HCJ := hid_of hcj
            obtain ⟨y, hy⟩ : ∃ y : Int, y = (cj : Int) := ⟨_, rfl⟩
            rw [← hy] at hc1
            by_cases hc0 : cj = 0
            · have hq3 : decide (0 < y) = false := decide_eq_false (by omega)
              have HD := hno (fun h => by have := h.2; rw [Int.toNat_natCast, hcg] at this; omega)
              clear hno hcj hcg hy
              go_wp2_with fail
              refine HD.out.mono ?_
              rintro e w2 ⟨rfl, hp2, hk2⟩
              have HP2 := hid_of hp2
              have HK2 := hid_of (HK1.out.trans hk2)
              clear hp2 hk2
              go_wp2_with fail
              go_meet
              exact ⟨C, by have := hsum.out; show _ ≤ _; omega, HP2, HK2⟩
            · have hq3 : decide (0 < y) = true := decide_eq_true (by omega)
              obtain ⟨w3, hw3⟩ : ∃ w3, w3 = w1.setCell ⟨gr, jn, none⟩ (.int .i64 (y - 1)) := ⟨_, rfl⟩
              have HP3 : Hid (Pr Ti X w3 b gr cr n C (C.set jn (cj - 1))) := by show Pr _ _ _ _ _ _ _ _ _; rw [hw3]; exact HP1.out.set R jn (cj - 1) hjl (y - 1) (by omega)
              have hks : Kept (fun k => k = gr) w1 w3 := by rw [hw3]; exact Kept.setCell _ _ _ rfl
              have HK3 : Hid (Kept (fun k => ¬ X k) w w3) := HK1.out.trans (hks.mono (fun k _ e f => by subst e; exact HP1.out.ne f))
              obtain ⟨z0, z1, z2⟩ := HC.out w3 _ hks (by omega)
              obtain ⟨e1, e2⟩ := drop_yes hcj (by omega)
              have HC2 : Hid (C.set jn (cj - 1) = dropS C (jn : Int)) := e2.symm
              have HD := hid_of (pr_drop R HP3.out (jn : Int) ⟨i3, i4⟩ HSB.out (cj - 1) true e1 (C.set jn (cj - 1)) HC2.out (y - 1) (by omega))
              have hc3 : w3.cell? ⟨gr, jn, none⟩ = some (.int .i64 (y - 1)) := by
                rw [(HP3.out.cell (j := jn) (c := cj - 1) (by rw [List.getElem?_set_self (by rw [← HN1.out]; exact hjl)])).1]
                exact congrArg some (congrArg (Value.int .i64) (by omega))
              have hyy : ((y - 1) != (y - 1)) = false := by simp
              have HY : Hid (y = (cj : Int)) := hy
              have hyb : 1 ≤ y ∧ y ≤ 1000000 := by omega
              clear hno hcj hcg hks e1 e2 hy
              go_wp2_with fail
              rw [← hw3]
              clear hw3
              go_wp2_with fail
              refine HD.out.mono ?_
              rintro e w2 ⟨rfl, hp2, hk2⟩
              have HP2 := hid_of hp2
              have HK2 := hid_of (HK3.out.trans hk2)
              clear hp2 hk2
              go_wp2_with fail
              go_meet
              exact ⟨_, by have := hsum.out; have := sum_dropS C (jn : Int); rw [← HC2.out] at this; show _ ≤ _; omega, HP2, HK2⟩
        · as_aux_lemma =>
          have hdb : (d == 2) = false := beq_eq_false_iff_ne.2 hd2'
          clear hd2'
          obtain ⟨m, hm⟩ : ∃ m, m = min nl 8 := ⟨_, rfl⟩
          have HCU : Hid (Calls Try.prog 20 #[.slice la nl lc, .int .i64 8] w1 fun e w' => e = .returned (.slice la m lc) ∧ w1 = w') := by rw [hm]; exact cutInt_any w1 la nl lc 8 (by decide) hlc hlm hln
          obtain ⟨xs, hxs⟩ : ∃ xs, xs = xl.take m := ⟨_, rfl⟩
          have hm8 : m ≤ 8 := by omega
          have HXL : Hid (xs.length = m) := by show _ = _; rw [hxs, List.length_take, ← HI.out.2.2]; omega
          have HXA : Hid (IntsAt w1 la xs) := by show IntsAt _ _ _; rw [hxs]; exact HIA.out.take m
          have HX64 : Hid (∀ y ∈ xs, I64 y) := fun y hy => HI.out.1 y (by rw [hxs] at hy; exact List.mem_of_mem_take hy)
          have HXB : Hid (xs ≠ [] → ∀ y, la = some y → X y.block) := fun hne => HI.out.2.1 (fun e => hne (by rw [hxs, e]; simp))
          have HO0 : Hid (true = okZ C (xs.take 0)) := by show _ = _; simp [okZ]
          clear hm hxs HIA HI
          go_wp2_with fail
          refine HCU.out.mono ?_
          rintro e w2 ⟨rfl, rfl⟩
          go_wp2_with fail
          go_loopw [14, 89] (fun o v wr => ∃ (k : Nat) (ok : Bool), k ≤ m ∧ o = .bool ok ∧ v = .int .i64 (k : Int) ∧ Hid (ok = okZ C (xs.take k)) ∧ w1 = wr) (fun _ v _ => m - (intOf v).toNat)
          case atStart => exact ⟨0, true, Nat.zero_le _, rfl, rfl, HO0, rfl⟩
          case round =>
            obtain ⟨k, ok, hkm, rfl, rfl, hok, rfl⟩ := hrel
            by_cases hkl : k < m
            · have hd3 : decide ((k : Int) < (m : Int)) = true := decide_eq_true (by omega)
              obtain ⟨x, hx⟩ : ∃ x, xs[k]? = some x := ⟨_, List.getElem?_eq_getElem (by rw [HXL.out]; exact hkl)⟩
              obtain ⟨ba, oa, rfl, hcx⟩ := HXA.out k x hx
              obtain ⟨j1, j2⟩ := HX64.out x (List.mem_of_getElem? hx)
              have hnx : okZ C (xs.take (k + 1)) = (ok && decide (isSec C x)) := by
                rw [hok.out, List.take_add_one, hx]
                simp [okZ]
              have HNX := hid_of hnx
              clear hnx hx
              rcases ok with _ | _
              · have HO : Hid (false = okZ C (xs.take (k + 1))) := by show _ = _; rw [HNX.out]; rfl
                go_wp2_with fail
                refine ⟨?_, by (simp [intOf]) <;> omega⟩
                first
                  | exact ⟨k + 1, false, by omega, rfl, by go_num, HO, by trivial⟩
                  | ((repeat apply Exists.intro); refine ⟨?_, rfl⟩; exact ⟨k + 1, false, by omega, rfl, by go_num, HO, by trivial⟩)
              · rcases (by omega : x < 0 ∨ (0 ≤ x ∧ (n : Int) ≤ x) ∨ (0 ≤ x ∧ x < (n : Int))) with hlo | ⟨hp1, hp2⟩ | ⟨hp1, hp2⟩
                · have hq1 : decide (0 ≤ x) = false := decide_eq_false (by omega)
                  have HO : Hid (false = okZ C (xs.take (k + 1))) := by show _ = _; rw [HNX.out, decide_eq_false (fun h => by unfold isSec at h; omega)]; rfl
                  go_wp2_with fail
                  refine ⟨?_, by (simp [intOf]) <;> omega⟩
                  first
                    | exact ⟨k + 1, false, by omega, rfl, by go_num, HO, by trivial⟩
                    | ((repeat apply Exists.intro); refine ⟨?_, rfl⟩; exact ⟨k + 1, false, by omega, rfl, by go_num, HO, by trivial⟩)
                · have hq1 : decide (0 ≤ x) = true := decide_eq_true (by omega)
                  have hq2 : decide (x < (n : Int)) = false := decide_eq_false (by omega)
                  have HO : Hid (false = okZ C (xs.take (k + 1))) := by show _ = _; rw [HNX.out, decide_eq_false (fun h => by unfold isSec at h; have := HN1.out; omega)]; rfl
                  go_wp2_with fail
                  refine ⟨?_, by (simp [intOf]) <;> omega⟩
                  first
                    | exact ⟨k + 1, false, by omega, rfl, by go_num, HO, by trivial⟩
                    | ((repeat apply Exists.intro); refine ⟨?_, rfl⟩; exact ⟨k + 1, false, by omega, rfl, by go_num, HO, by trivial⟩)
                · have hq1 : decide (0 ≤ x) = true := decide_eq_true (by omega)
                  have hq2 : decide (x < (n : Int)) = true := decide_eq_true (by omega)
                  have HO : Hid (true = okZ C (xs.take (k + 1))) := by show _ = _; rw [HNX.out, decide_eq_true (show isSec C x by unfold isSec; have := HN1.out; omega)]; rfl
                  go_wp2_with fail
                  refine ⟨?_, by (simp [intOf]) <;> omega⟩
                  first
                    | exact ⟨k + 1, true, by omega, rfl, by go_num, HO, by trivial⟩
                    | ((repeat apply Exists.intro); refine ⟨?_, rfl⟩; exact ⟨k + 1, true, by omega, rfl, by go_num, HO, by trivial⟩)
            · have hd3 : decide ((k : Int) < (m : Int)) = false := decide_eq_false (by omega)
              have HOK : Hid (ok = okZ C xs) := by show _ = _; rw [hok.out, List.take_of_length_le (by rw [HXL.out]; omega)]
              obtain ⟨C2, hC2⟩ : ∃ C2, C2 = addS C xs := ⟨_, rfl⟩
              have HC2 := hid_of hC2
              have HAD := hid_of (pr_add R HP1.out la m lc xs HXL.out (by omega) HXA.out HX64.out HXB.out HSB.out ok HOK.out C2 hC2)
              have HS2 : Hid (sumC C2 ≤ s + 8 * (i + 1)) := by show _ ≤ _; have := sum_addS C xs; rw [← hC2, HXL.out] at this; have := hsum.out; omega
              have hoo : (ok != ok) = false := by simp
              clear hC2 hok
              rcases ok with _ | _
              · have hCC : C2 = C := by rw [HC2.out]; unfold addS; rw [← HOK.out]; rfl
                have HCC := hid_of hCC
                clear hCC
                go_wp2_with fail
                refine HAD.out.mono ?_
                rintro e w2 ⟨rfl, hp2, hk2⟩
                have HP2 : Hid (Pr Ti X w2 b gr cr n C2 C2) := by show Pr _ _ _ _ _ _ _ _ _; have e := hp2; rw [HCC.out] at e ⊢; exact e
                have HK2 := hid_of (HK1.out.trans hk2)
                clear hp2 hk2
                go_wp2_with fail
                go_loopw [16] (fun v wr => v = .int .i64 0 ∧ w2 = wr) (fun _ _ => 0)
                case atStart => exact ⟨rfl, rfl⟩
                case round =>
                  obtain ⟨rfl, rfl⟩ := hrel
                  by_cases h0m : 0 < m
                  · have hd4 : decide ((0 : Int) < (m : Int)) = true := decide_eq_true (by omega)
                    go_wp2_with fail
                    go_meet
                    exact ⟨C2, HS2, HP2, HK2⟩
                  · have hd4 : decide ((0 : Int) < (m : Int)) = false := decide_eq_false (by omega)
                    go_wp2_with fail
                    go_meet
                    exact ⟨C2, HS2, HP2, HK2⟩
              · have hCC : C2 = addZ C xs := by rw [HC2.out]; unfold addS; rw [← HOK.out]; rfl
                have HCC := hid_of hCC
                have HSE : Hid (∀ x ∈ xs, isSec C x) := (okZ_iff C xs).1 HOK.out.symm
                clear hCC
                go_wp2_with fail
                refine HAD.out.mono ?_
                rintro e w2 ⟨rfl, hp2, hk2⟩
                have HP2 : Hid (Pr Ti X w2 b gr cr n C2 (addZ C (xs.take 0))) := hp2
                have HK2 : Hid (Kept (fun k => ¬ X k) w1 w2) := hk2
                clear hp2 hk2
                go_wp2_with fail
                go_loopw [16] (fun v wr => ∃ k : Nat, k ≤ m ∧ v = .int .i64 (k : Int) ∧ Hid (Pr Ti X wr b gr cr n C2 (addZ C (xs.take k))) ∧ Hid (Kept (fun k => ¬ X k) w1 wr)) (fun v _ => m - (intOf v).toNat)
                case atStart => exact ⟨0, Nat.zero_le _, rfl, HP2, HK2⟩
                case round =>
                  obtain ⟨k, hkm2, rfl, hp3, hk3⟩ := hrel
                  by_cases hkl2 : k < m
                  · have hd4 : decide ((k : Int) < (m : Int)) = true := decide_eq_true (by omega)
                    obtain ⟨x, hx⟩ : ∃ x, xs[k]? = some x := ⟨_, List.getElem?_eq_getElem (by rw [HXL.out]; exact hkl2)⟩
                    obtain ⟨ba, oa, rfl, hcx⟩ := (HXA.out.kept_ne hk3.out (fun hne y hy f => f (HXB.out hne y hy))) k x hx
                    have hsx := HSE.out x (List.mem_of_getElem? hx)
                    unfold isSec at hsx
                    obtain ⟨jn, hjn⟩ : ∃ jn : Nat, x = (jn : Int) := ⟨x.toNat, by omega⟩
                    subst hjn
                    have hjl : jn < n := by have := HN1.out; omega
                    obtain ⟨E, hE⟩ : ∃ E, E = addZ C (xs.take k) := ⟨_, rfl⟩
                    rw [← hE] at hp3
                    have hEl : E.length = n := hp3.out.len
                    obtain ⟨cj, hcj⟩ : ∃ cj, E[jn]? = some cj := ⟨_, List.getElem?_eq_getElem (by rw [hEl]; exact hjl)⟩
                    have hcg : E.getD jn 0 = cj := by rw [List.getD_eq_getElem?_getD, hcj]; rfl
                    have hcb : cj ≤ 2000000 := by
                      have e1 := getD_le_sumC (C := E) jn
                      rw [hcg, hE, sumC_add _ C (fun x hx => HSE.out x (List.mem_of_mem_take hx)), List.length_take] at e1
                      have := HSB.out
                      omega
                    have hnext : E.set jn (cj + 1) = addZ C (xs.take (k + 1)) := by
                      rw [List.take_add_one, hx, show (xs.take k ++ (some (jn : Int)).toList) = xs.take k ++ [(jn : Int)] from rfl, addZ_snoc, ← hE, Int.toNat_natCast, hcg]
                    obtain ⟨hc1, hc2⟩ := hp3.out.cell hcj
                    obtain ⟨y, hy⟩ : ∃ y : Int, y = (cj : Int) := ⟨_, rfl⟩
                    rw [← hy] at hc1
                    have HP4 : Hid (Pr Ti X (wr.setCell ⟨gr, jn, none⟩ (.int .i64 (y + 1))) b gr cr n C2 (addZ C (xs.take (k + 1)))) := by
                      show Pr _ _ _ _ _ _ _ _ _
                      rw [← hnext]
                      exact hp3.out.set R jn (cj + 1) hjl (y + 1) (by omega)
                    have HK4 : Hid (Kept (fun k => ¬ X k) w1 (wr.setCell ⟨gr, jn, none⟩ (.int .i64 (y + 1)))) := hk3.out.trans ((Kept.setCell (F := fun k => k = gr) _ _ _ rfl).mono (fun k _ e f => by subst e; exact hp3.out.ne f))
                    have hyb : 0 ≤ y ∧ y ≤ 2000000 := by omega
                    clear hcj hcg hy hE hx hnext hsx hEl
                    go_wp2_with fail
                    refine ⟨?_, by (simp [intOf]) <;> omega⟩
                    first
                      | exact ⟨k + 1, by omega, by go_num, HP4, HK4⟩
                      | ((repeat apply Exists.intro); refine ⟨?_, rfl⟩; exact ⟨k + 1, by omega, by go_num, HP4, HK4⟩)
                  · have hd4 : decide ((k : Int) < (m : Int)) = false := decide_eq_false (by omega)
                    have HPE : Hid (Pr Ti X wr b gr cr n C2 C2) := by
                      show Pr _ _ _ _ _ _ _ _ _
                      have e := hp3.out
                      rw [List.take_of_length_le (by rw [HXL.out]; omega), ← HCC.out] at e
                      exact e
                    have HKE := hid_of (HK1.out.trans hk3.out)
                    go_wp2_with fail
                    go_meet
                    exact ⟨C2, HS2, HPE, HKE⟩
      case rest =>
        obtain ⟨C2, hs2, hp2, hk2⟩ := hcut
        obtain ⟨i0, hi0, hz0, hz1, hz2⟩ := info_parts Try.info3
        have hn2 : n = C2.length := hp2.out.len.symm
        have HN2 := hid_of hn2
        have HSB2 : Hid (sumC C2 ≤ 1000000) := by show _ ≤ _; have := hs2.out; omega
        have HS2' : Hid (sumTo C2 n = sumC C2) := by show _ = _; rw [hn2]; rfl
        have HE0 : Hid (OwnInts wc wc.heap.size (.slice none 0 0) (ownTo C2 0)) := OwnInts.nil _ _
        have HB0 : Hid (Below wc.heap.size wc wc) := Below.refl _ _
        clear hn2 HC HP1 HK1 HIA HI HN1 HSB x0 x1 x2 hlc hlm hln hbl HBX hgx HW i1 i2 i3 i4
        go_wp2_with fail
        go_loopw [17, 18, 135] (fun xv sv v wr => ∃ k : Nat, k ≤ n ∧ v = .int .i64 (k : Int) ∧ sv = .int .i64 ((sumTo C2 k : Nat) : Int) ∧ Hid (OwnInts wr wc.heap.size xv (ownTo C2 k)) ∧ Hid (Below wc.heap.size wc wr)) (fun _ _ v _ => n - (intOf v).toNat)
        case atStart => exact ⟨0, Nat.zero_le _, rfl, rfl, HE0, HB0⟩
        case round =>
          obtain ⟨k, hkn, rfl, rfl, hxo, hbw⟩ := hrel
          have HPW := hid_of (hp2.out.newer R hbw.out)
          by_cases hkl : k < n
          · have hd3 : decide ((k : Int) < (n : Int)) = true := decide_eq_true (by omega)
            obtain ⟨cj, hcj⟩ : ∃ cj, C2[k]? = some cj := ⟨_, List.getElem?_eq_getElem (by rw [← HN2.out]; exact hkl)⟩
            have hcg : C2.getD k 0 = cj := by rw [List.getD_eq_getElem?_getD, hcj]; rfl
            have hcb : cj ≤ 1000000 := by rw [← hcg]; exact Nat.le_trans (getD_le_sumC k) HSB2.out
            obtain ⟨hc1, -⟩ := HPW.out.cell hcj
            have hof : cj = ofR C2 (k : Int) := by unfold ofR; rw [if_pos (by unfold isSec; have := HN2.out; omega), Int.toNat_natCast, hcg]
            obtain ⟨y, hy⟩ : ∃ y : Int, y = (cj : Int) := ⟨_, rfl⟩
            rw [← hy] at hc1
            have HQ : Hid (∀ d, Calls Try.prog 17 #[.pointer (some ⟨b, 0, none⟩), .int .i64 (k : Int)] (wr.drewN d) fun e w' => e = .returned (.int .i64 y) ∧ ∃ q, w' = wr.drewN q) := fun d => by
              rw [hy]
              exact (tb_of OF (HPW.out.draws R d).tb (k : Int) ⟨by omega, by omega⟩ cj hof).mono fun e w' ⟨h1, q, h2⟩ => ⟨h1, d + q, by rw [h2, World.drewN_drewN]⟩
            have hsn : sumTo C2 (k + 1) = sumTo C2 k + cj := by show sumTo C2 k + C2.getD k 0 = _; rw [hcg]
            have hsl : sumTo C2 (k + 1) ≤ 1000000 := by
              have e := sumTo_mono C2 (j := k + 1) (l := n) (by omega)
              rw [HS2'.out] at e
              exact Nat.le_trans e HSB2.out
            have HCJ := hid_of hcj
            have HYC : Hid (y = (cj : Int)) := hy
            obtain ⟨S, hS⟩ : ∃ S : Int, S = ((sumTo C2 k : Nat) : Int) := ⟨_, rfl⟩
            rw [← hS]
            have hSb : 0 ≤ S ∧ S + y ≤ 1000000 ∧ 0 ≤ y := by omega
            have HSN : Hid (S + y = ((sumTo C2 (k + 1) : Nat) : Int)) := by show _ = _; omega
            have hyy : (y != y) = false := by simp
            have hlo : (ownTo C2 k).length ≤ 1000000 := by have := length_ownTo C2 k; omega
            have hbs : wc.heap.size ≤ wr.heap.size := hbw.out.size
            by_cases hy0 : 0 < y
            · have hq1 : decide (0 < y) = true := decide_eq_true hy0
              have HON : Hid (ownTo C2 (k + 1) = ownTo C2 k ++ [(k : Int)]) := by show (if 0 < C2.getD k 0 then ownTo C2 k ++ [(k : Int)] else ownTo C2 k) = _; rw [if_pos (by rw [hcg]; omega)]
              clear hcj hcg hy hof hsn hsl hS hy0
              go_wp2_with fail
              go_quiet (first | (go_at_call 17; exact HQ.out _))
              go_wp2_with (at_builtin; go_must (refine wpList_append_int (wr.drewN _) rfl (.tmp 151) (.tmp 153) 22 rfl wc.heap.size i0 Try.underlying22 hi0 hz0 hz1 hz2 _ (ownTo C2 k) (by rfl) (hxo.out.drewN _) (k : Int) (by rfl) hlo hbs ?_))
              intro v2 w3 HR3 HB3
              have HR4 : Hid (OwnInts w3 wc.heap.size v2 (ownTo C2 (k + 1))) := by show OwnInts _ _ _ _; rw [HON.out]; exact HR3.out
              have HB4 : Hid (Below wc.heap.size wc w3) := (below_drewN hbw.out _).trans HB3.out
              have hc5 : w3.cell? ⟨gr, k, none⟩ = some (.int .i64 y) := by rw [((hp2.out.newer R HB4.out).cell HCJ.out).1, ← HYC.out]
              clear HR3 HB3
              go_wp2_with fail
              refine ⟨?_, by (simp [intOf]) <;> omega⟩
              first
                | exact ⟨k + 1, by omega, by go_num, congrArg (Value.int .i64) HSN.out, HR4, HB4⟩
                | ((repeat apply Exists.intro); refine ⟨?_, rfl⟩; exact ⟨k + 1, by omega, by go_num, congrArg (Value.int .i64) HSN.out, HR4, HB4⟩)
            · have hq1 : decide (0 < y) = false := decide_eq_false hy0
              have HON : Hid (ownTo C2 (k + 1) = ownTo C2 k) := by show (if 0 < C2.getD k 0 then ownTo C2 k ++ [(k : Int)] else ownTo C2 k) = _; rw [if_neg (by rw [hcg]; omega)]
              have HR4 : Hid (∀ d, OwnInts (wr.drewN d) wc.heap.size _ (ownTo C2 (k + 1))) := fun d => by rw [HON.out]; exact hxo.out.drewN d
              have HB4 : Hid (∀ d, Below wc.heap.size wc (wr.drewN d)) := fun d => below_drewN hbw.out d
              clear hcj hcg hy hof hsn hsl hS hy0
              go_wp2_with fail
              go_quiet (first | (go_at_call 17; exact HQ.out _))
              go_wp2_with fail
              refine ⟨?_, by (simp [intOf]) <;> omega⟩
              first
                | exact ⟨k + 1, by omega, by go_num, congrArg (Value.int .i64) HSN.out, HR4.out _, HB4.out _⟩
                | ((repeat apply Exists.intro); refine ⟨?_, rfl⟩; exact ⟨k + 1, by omega, by go_num, congrArg (Value.int .i64) HSN.out, HR4.out _, HB4.out _⟩)
          · have hd3 : decide ((k : Int) < (n : Int)) = false := decide_eq_false (by omega)
            obtain ⟨l5, hl5⟩ : ∃ l5, l5 = ownTo C2 k := ⟨_, rfl⟩
            have hl6 : ownTo C2 C2.length = l5 := by rw [hl5, ← HN2.out, show k = n by omega]
            have hll : l5.length ≤ 1000000 := by rw [hl5]; have := length_ownTo C2 k; omega
            obtain ⟨N5, hN5⟩ : ∃ N5, N5 = l5.length := ⟨_, rfl⟩
            rw [← hl5] at hxo
            obtain ⟨ax, cx, hxv, hia, -⟩ := hxo.out.slice
            rw [← hN5] at hxv
            subst hxv
            obtain ⟨S, hS⟩ : ∃ S : Int, S = ((sumTo C2 k : Nat) : Int) := ⟨_, rfl⟩
            rw [← hS]
            have hS2 : S = ((sumC C2 : Nat) : Int) := by rw [hS, show k = n by omega, HS2'.out]
            have hSb : 0 ≤ S ∧ S ≤ 1000000 := by have := HSB2.out; omega
            have hSS : (S != S) = false := by simp
            have HS5 := hid_of hS2
            have HL6 := hid_of hl6
            have HN5 := hid_of hN5
            have HIA5 := hid_of hia
            clear hS hS2 hl5 hl6 hN5 hxo hia
            go_wp2_with fail
            refine (tb_owned OW HPW.out.tb).mono ?_
            rintro e w5 ⟨v5, rfl, ho5, hb5⟩
            obtain ⟨a5, c5, hv5, hi5, -⟩ := ho5.slice
            rw [HL6.out, ← HN5.out] at hv5
            rw [HL6.out] at hi5
            subst hv5
            have HSM : Hid (Calls Try.prog 18 #[.slice a5 N5 c5, .slice ax N5 cx] w5 fun e w' => e = .returned (.bool true) ∧ ∃ n, w' = w5.drewN n) := by
              rw [HN5.out]
              exact sameInt_any w5 a5 ax c5 cx l5 hi5 (HIA5.out.mono hb5) hll
            have HP5 : Hid (∀ q, Pr Ti X (w5.drewN q) b gr cr n C2 C2) := fun q => (HPW.out.newer R hb5).draws R q
            have HK5 : Hid (∀ q, Kept (fun k => ¬ X k) w (w5.drewN q)) := fun q => by
              have e1 : Kept (fun k => ¬ X k) wc wr := ⟨hbw.out.os, hbw.out.tape, hbw.out.output, hbw.out.size, fun k hkk _ => hbw.out.block k hkk⟩
              have e2 : Kept (fun k => ¬ X k) wr w5 := ⟨hb5.os, hb5.tape, hb5.output, hb5.size, fun k hkk _ => hb5.block k hkk⟩
              have e3 := (hk2.out.trans e1).trans e2
              exact ⟨e3.os, e3.tape, e3.output, e3.size, e3.block⟩
            have HSU : Hid (∀ q, Calls Try.prog 10 #[.pointer (some ⟨b, 0, none⟩)] (w5.drewN q) fun e w' => e = .returned (.int .i64 S) ∧ ∃ q', w' = w5.drewN q') := fun q => by
              rw [HS5.out]
              exact (tb_sum R (HP5.out q).tb HSB2.out _ rfl).mono fun e w' ⟨h1, q2, h2⟩ => ⟨h1, q + q2, by rw [h2, World.drewN_drewN]⟩
            have HOF : Hid (∀ (q : Nat) (z : Int), I64 z → ¬ isSec C2 z → Calls Try.prog 17 #[.pointer (some ⟨b, 0, none⟩), .int .i64 z] (w5.drewN q) fun e w' => e = .returned (.int .i64 0) ∧ ∃ q', w' = w5.drewN q') := fun q z hz hno =>
              (tb_of OF (HP5.out q).tb z hz 0 (by unfold ofR; rw [if_neg hno])).mono fun e w' ⟨h1, q2, h2⟩ => ⟨h1, q + q2, by rw [h2, World.drewN_drewN]⟩
            clear hi5 hb5 ho5
            go_wp2_with fail
            refine HSM.out.mono ?_
            rintro e w6 ⟨rfl, q6, rfl⟩
            go_wp2_with fail
            refine (HSU.out _).mono ?_
            rintro e w7 ⟨rfl, q7, rfl⟩
            go_wp2_with fail
            refine (HOF.out _ (-1) ⟨by decide, by decide⟩ (fun h => by unfold isSec at h; omega)).mono ?_
            rintro e w8 ⟨rfl, q8, rfl⟩
            go_wp2_with fail
            refine (HOF.out _ (n : Int) ⟨by omega, by omega⟩ (fun h => by unfold isSec at h; have := HN2.out; omega)).mono ?_
            rintro e w9 ⟨rfl, q9, rfl⟩
            go_wp2_with fail
            refine ⟨?_, by (simp [intOf]) <;> omega⟩
            first
              | exact ⟨i + 1, C2, by omega, by omega, by go_num, hs2, HP5.out _, HK5.out _⟩
              | ((repeat apply Exists.intro); refine ⟨?_, rfl⟩; exact ⟨i + 1, C2, by omega, by omega, by go_num, hs2, HP5.out _, HK5.out _⟩)
    · rcases hout with ⟨hd1, hd2, hj1⟩ | ⟨hd1, hd2, hj1⟩
      all_goals
        go_wp2_with fail
        go_ret
        exact ⟨rfl, ⟨C, by have := hsum.out; omega, hp.out⟩, hk.out⟩

end Go.Proofs.Ytcbenfmffedioaa
