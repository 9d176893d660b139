/- FrameBack: the walk of the law. -/
import Derived.Test.YthkfaackkcdcoabPart14
namespace Go.Proofs.Ythkfaackkcdcoab
set_option linter.unusedVariables false
set_option linter.unusedSimpArgs false
open Go.RowKit Dg

theorem asOut_no {kind : Int} {x : List Int} {s : Nat} (h : frm kind x s = none) : asOut kind x s = ([], false) := by unfold asOut; rw [h]
theorem asOut_is {kind : Int} {x : List Int} {s : Nat} {D : List Bool} (h : frm kind x s = some D) : asOut kind x s = (pack D, true) := by unfold asOut; rw [h]
/-- Is the best one of the first frames? -/
def foundB (x : List Int) (s : Nat) (L : List Nat) : Nat → Bool
  | 0 => false
  | j + 1 => foundB x s L j || decide (asOut (j : Int) x s = (L, true))
theorem foundB_of {x : List Int} {s : Nat} {L : List Nat} {i : Nat} (h : asOut (i : Int) x s = (L, true)) : ∀ j, i < j → foundB x s L j = true := by
  intro j hj
  induction j with
  | zero => omega
  | succ j ih =>
    unfold foundB
    by_cases e : i = j
    · subst e
      rw [decide_eq_true h, Bool.or_true]
    · rw [ih (by omega), Bool.true_or]

set_option maxRecDepth 100000 in
set_option maxHeartbeats 8000000 in
theorem yback_any (W : World) (a : Option Addr) (len cap : Nat) (z : List Int) (tone noise n : Int) (hr : IsRow .i64 W a len cap z) (ht : I64 tone) (hno : I64 noise) (hn : I64 n) :
    Calls Try.prog 4 #[.slice a len cap, .int .i64 tone, .int .i64 noise, .int .i64 n] W fun e W' => e = .returned (.bool true) ∧ Below W.heap.size W W' := by
  obtain ⟨l, hll, hI, hat, hle, hm, hnone, hblk⟩ := hr.ints
  subst hll
  have HA : Hid (IntsAt W a l) := hat
  have HI : Hid (∀ x ∈ l, I64 x) := hI
  have HM : Hid (l.length ≤ maxLen) := Nat.le_trans hle hm
  obtain ⟨N, hN⟩ : ∃ N : Nat, n % 65 = (N : Int) := ⟨(n % 65).toNat, by omega⟩
  have HN := hid_of hN
  have hN64 : N ≤ 64 := by omega
  have HTI := hid_of ht
  have HNO := hid_of hno
  have HNI := hid_of hn
  clear hat hI hle hm hnone hblk hr hN ht hno hn
  have hcase : (Int.tmod tone 3 != 0) = false ∨ (Int.tmod tone 3 != 0) = true := by cases (Int.tmod tone 3 != 0) <;> simp
  rcases hcase with hb | hb
  all_goals
    go_enter Try.func4, Try.ntmps4
    go_wp2_with fail
  refine (samples_any W a cap 64 l false HA.out HM.out HI.out (by decide)).mono ?_
  rintro e w1 ⟨v1, xs, rfl, hv1, hxl', -, hxs', hb1⟩
  have hxl : xs.length ≤ 64 := by omega
  have hxs : allS xs := hxs' rfl
  clear hxl' hxs'
  rotate_left
  refine (tone_any W a cap l n tone noise N HA.out HM.out HI.out HNI.out HTI.out HNO.out HN.out).mono ?_
  rintro e w1 ⟨v1, xs, rfl, hv1, hxl', hxs', hb1⟩
  have hxl : xs.length ≤ 64 := by omega
  have hxs : allS xs := fun y hy => by have := hxs' y hy; unfold isS; omega
  clear hxl' hxs'
  all_goals
    obtain ⟨a1, c1, rfl, hn1, -, -⟩ := hv1.ns
    have HB1 := hid_of hb1
    have HN1 := hid_of hn1
    have HXS := hid_of hxs
    have hs1 : W.heap.size ≤ w1.heap.size := hb1.size
    clear hv1 hb1 hn1 hxs HA HI HM HN HNI HTI HNO hb
    by_cases hx0 : xs.length = 0
    · have hxb : ((xs.length : Int) == 0) = true := beq_iff_eq.2 (by omega)
      have HR : Hid (([], 4) = encOut xs 0) := by show _ = _; unfold encOut; rw [if_pos (by omega)]
      have HS : Hid (mayX xs → IsShift (autoZ xs 0) 0) := fun h => by have := h.1; omega
      clear hx0
      go_wp2_with fail
      refine (fenc_any w1 0 a1 c1 xs HN1.out (by omega) HS.out _ HR.out).mono ?_
      rintro e w2 ⟨v2, rfl, h2, hb2⟩
      have HB2 : Hid (Below W.heap.size W w2) := HB1.out.trans (hb2.mono hs1)
      have hs2 : W.heap.size ≤ w2.heap.size := HB2.out.size
      clear h2 hb2
      go_wp2_with fail
      refine (wakes8_any _).mono ?_
      rintro e w8 ⟨rfl, hb8⟩
      have HB8 : Hid (Below W.heap.size W w8) := HB2.out.trans (hb8.mono hs2)
      clear hb8
      go_wp2
      go_ret
      exact ⟨rfl, HB8.out⟩
    have hxb : ((xs.length : Int) == 0) = false := beq_eq_false_iff_ne.2 (by omega)
    have hXm : mayX xs := ⟨by omega, hxl, HXS.out⟩
    have HXM := hid_of hXm
    obtain ⟨s, hs⟩ := shift_may xs
    have HS := hid_of hs
    obtain ⟨i, hi19, hbi, hbest⟩ := bestF_any hXm s
    have hbl := frm_len hbi
    have hbv := bestF_verb hXm s
    obtain ⟨L, hL⟩ : ∃ L, L = pack (bestF xs s 19) := ⟨_, rfl⟩
    have HR : Hid ((L, 0) = encOut xs s) := by show _ = _; rw [encOut_may hXm, hL]
    have HD : Hid ((xs, 0) = decOut 2 L) := by show _ = _; rw [hL, decOut_pack hbi]
    have HL256 : Hid (∀ x ∈ L, x < 256) := by rw [hL]; exact pack_lt _
    have hLl : L.length ≤ 10000 := by rw [hL, length_pack]; omega
    have hLv : (L.length : Int) ≤ 2 + 3 * (xs.length : Int) := by rw [hL, length_pack]; omega
    have HFOUND : Hid (foundB xs s L 19 = true) := foundB_of (i := i) (by rw [asOut_is hbi, hL]) 19 hi19
    have HLE : Hid (∀ (k : Nat) (D : List Bool), k < 19 → frm (k : Int) xs s = some D → L.length ≤ (pack D).length) := by
      intro k D hk hD
      have := (hbest k D hk hD).1
      rw [hL, length_pack, length_pack]
      omega
    clear hXm hs hi19 hbi hbest hbl hbv hL
    go_wp2_with fail
    refine (fenc_any w1 s a1 c1 xs HN1.out (by omega) HS.out _ HR.out).mono ?_
    rintro e w2 ⟨v2, rfl, h2, hb2⟩
    obtain ⟨a2, c2, rfl, hc2⟩ := SlAt.of_owns h2
    have HL2 : Hid (SlAt w2 (.slice a2 L.length c2) L) := ⟨a2, c2, rfl, hc2⟩
    have HX2 := hid_of (HN1.out.mono hb2)
    have HB2 : Hid (Below W.heap.size W w2) := HB1.out.trans (hb2.mono hs1)
    have hs2 : W.heap.size ≤ w2.heap.size := HB2.out.size
    clear h2 hb2 hc2 HN1 HB1
    go_wp2_with fail
    refine (fdec_any w2 _ L HL2.out (by omega) HL256.out _ HD.out).mono ?_
    rintro e w3 hg
    obtain ⟨a3, c3, rfl, -, hn3, hb3⟩ := hg.ok
    have HL3 := hid_of (HL2.out.below hb3)
    have HX3 := hid_of (HX2.out.mono hb3)
    have HY3 := hid_of hn3.at_
    have HB3 : Hid (Below W.heap.size W w3) := HB2.out.trans (hb3.mono hs2)
    have hs3 : W.heap.size ≤ w3.heap.size := HB3.out.size
    clear hg hn3 hb3 HL2 HX2 HB2
    go_wp2_with fail
    refine (sameInt_any w3 a3 a1 c3 c1 xs HY3.out HX3.out.at_ (by omega)).mono ?_
    rintro e w4 ⟨rfl, n4, rfl⟩
    have HL4 : Hid (SlAt (w3.drewN n4) (.slice a2 L.length c2) L) := HL3.out.drewN n4
    have HX4 : Hid (Ns (w3.drewN n4) a1 c1 xs) := HX3.out.drewN n4
    have HB4 : Hid (Below W.heap.size W (w3.drewN n4)) := below_drewN HB3.out n4
    have hs4 : W.heap.size ≤ (w3.drewN n4).heap.size := hs3
    clear HL3 HX3 HY3 HB3
    generalize w3.drewN n4 = w4 at *
    go_wp2_with fail
    go_loopw [15, 16] (fun f i wr => ∃ j : Nat, j ≤ 19 ∧ i = .int .i64 (j : Int) ∧ f = .bool (foundB xs s L j) ∧ Hid (Below w4.heap.size w4 wr)) (fun _ i _ => 19 - (intOf i).toNat)
    case atStart => exact ⟨0, Nat.zero_le _, rfl, rfl, Below.refl _ _⟩
    case round =>
      obtain ⟨j, hj, rfl, rfl, hbr⟩ := hrel
      have HLr : Hid (SlAt wr (.slice a2 L.length c2) L) := HL4.out.below hbr.out
      have HXr : Hid (Ns wr a1 c1 xs) := HX4.out.mono hbr.out
      by_cases hj18 : j ≤ 18
      · have hjb : decide ((j : Int) ≤ 18) = true := decide_eq_true (by omega)
        cases hF : frm (j : Int) xs s with
        | none =>
          have HR5 : Hid (([], false) = asOut (j : Int) xs s) := (asOut_no hF).symm
          have hj1 : ((j : Int) == 1) = false := beq_eq_false_iff_ne.2 (fun e => by
            have e' : (j : Int) = 1 := e
            rw [e', frm_verb HXM.out] at hF
            cases hF)
          have HNX : Hid (foundB xs s L (j + 1) = foundB xs s L j) := by
            show _ = _
            rw [foundB, ← HR5.out]
            simp
          clear hF
          go_wp2_with fail
          refine (fas_any wr _ s a1 c1 xs HXr.out (by omega) HS.out _ HR5.out).mono ?_
          rintro e w5 ⟨v5, rfl, h5, hb5⟩
          have HB5 : Hid (Below w4.heap.size w4 w5) := hbr.out.trans (hb5.mono hbr.out.size)
          clear h5 hb5
          go_wp2_with fail
          exact ⟨⟨j + 1, by omega, by go_num, by rw [HNX.out], HB5⟩, by (simp [intOf]) <;> omega⟩
        | some D =>
          obtain ⟨P, hP⟩ : ∃ P, P = pack D := ⟨_, rfl⟩
          have hDl := frm_len hF
          have HR5 : Hid ((P, true) = asOut (j : Int) xs s) := by show _ = _; rw [asOut_is hF, hP]
          have HD5 : Hid ((xs, 0) = decOut 2 P) := by show _ = _; rw [hP, decOut_pack hF]
          have HK5 : Hid ((j : Int) = kindOut P) := by show _ = _; rw [hP, kindOut_pack hF]
          have HP256 : Hid (∀ x ∈ P, x < 256) := by rw [hP]; exact pack_lt _
          have hLP : L.length ≤ P.length := by rw [hP]; exact HLE.out j D (by omega) hF
          have hPl : P.length ≤ 10000 := by rw [hP, length_pack]; omega
          obtain ⟨t, ht⟩ : ∃ t, t = decide (P = L) := ⟨_, rfl⟩
          have HT := hid_of ht
          have HNX : Hid (foundB xs s L (j + 1) = (foundB xs s L j || t)) := by
            show _ = _
            rw [foundB, ← HR5.out, ht]
            congr 1
            exact decide_eq_decide.2 ⟨fun h => congrArg Prod.fst h, fun h => by rw [h]⟩
          have hjj : ((j : Int) != (j : Int)) = false := by simp
          clear hF hP hDl ht
          go_wp2_with fail
          refine (fas_any wr _ s a1 c1 xs HXr.out (by omega) HS.out _ HR5.out).mono ?_
          rintro e w5 ⟨v5, rfl, h5, hb5⟩
          obtain ⟨a5, c5, rfl, hc5⟩ := SlAt.of_owns h5
          have HP5 : Hid (SlAt w5 (.slice a5 P.length c5) P) := ⟨a5, c5, rfl, hc5⟩
          have HL5 := hid_of (HLr.out.below hb5)
          have HX5 := hid_of (HXr.out.mono hb5)
          have HB5 : Hid (Below w4.heap.size w4 w5) := hbr.out.trans (hb5.mono hbr.out.size)
          clear h5 hb5 hc5 HLr HXr
          go_wp2_with fail
          refine (fdec_any w5 _ P HP5.out (by omega) HP256.out _ HD5.out).mono ?_
          rintro e w6 hg
          obtain ⟨a6, c6, rfl, -, hn6, hb6⟩ := hg.ok
          have HP6 := hid_of (HP5.out.below hb6)
          have HL6 := hid_of (HL5.out.below hb6)
          have HX6 := hid_of (HX5.out.mono hb6)
          have HZ6 := hid_of hn6.at_
          have HB6 : Hid (Below w4.heap.size w4 w6) := HB5.out.trans (hb6.mono HB5.out.size)
          clear hg hn6 hb6 HP5 HL5 HX5 HB5
          go_wp2_with fail
          refine (sameInt_any w6 a6 a1 c6 c1 xs HZ6.out HX6.out.at_ (by omega)).mono ?_
          rintro e w7 ⟨rfl, n7, rfl⟩
          have HP7 := hid_of (HP6.out.drewN n7)
          have HL7 := hid_of (HL6.out.drewN n7)
          have HB7 : Hid (Below w4.heap.size w4 (w6.drewN n7)) := below_drewN HB6.out n7
          clear HP6 HL6 HX6 HZ6 HB6
          generalize w6.drewN n7 = w7 at *
          go_wp2_with fail
          refine (fkind_any w7 _ P HP7.out (by omega) HP256.out _ HK5.out).mono ?_
          rintro e w8 ⟨rfl, hb8⟩
          have HP8 := hid_of (HP7.out.below hb8)
          have HL8 := hid_of (HL7.out.below hb8)
          have HB8 : Hid (Below w4.heap.size w4 w8) := HB7.out.trans (hb8.mono HB7.out.size)
          clear hb8 HP7 HL7 HB7
          cases hfd : foundB xs s L j with
          | true =>
            rw [hfd] at HNX
            have HNX' : Hid (foundB xs s L (j + 1) = true) := by show _ = _; rw [HNX.out]; rfl
            clear hfd
            go_wp2_with fail
            exact ⟨⟨j + 1, by omega, by go_num, by rw [HNX'.out], HB8⟩, by (simp [intOf]) <;> omega⟩
          | false =>
            rw [hfd] at HNX
            have HNX' : Hid (foundB xs s L (j + 1) = t) := by show _ = _; rw [HNX.out]; rfl
            clear hfd
            go_wp2_with fail
            refine (sameB_all w8 _ _ P L HP8.out HL8.out (by omega) t HT.out).mono ?_
            rintro e w9 ⟨rfl, n9, rfl⟩
            have HB9 : Hid (Below w4.heap.size w4 (w8.drewN n9)) := below_drewN HB8.out n9
            go_wp2_with fail
            exact ⟨⟨j + 1, by omega, by go_num, by rw [HNX'.out], HB9⟩, by (simp [intOf]) <;> omega⟩
      · have e : j = 19 := by omega
        subst e
        have hjb : decide (((19 : Nat) : Int) ≤ 18) = false := rfl
        have hfd := HFOUND.out
        have HBW : Hid (Below W.heap.size W wr) := HB4.out.trans (hbr.out.mono hs4)
        have hsw : W.heap.size ≤ wr.heap.size := HBW.out.size
        rw [hfd]
        go_wp2_with fail
        refine (wakes8_any _).mono ?_
        rintro e w8 ⟨rfl, hb8⟩
        have HB8 : Hid (Below W.heap.size W w8) := HBW.out.trans (hb8.mono hsw)
        clear hb8
        go_wp2
        go_ret
        exact ⟨rfl, HB8.out⟩

end Go.Proofs.Ythkfaackkcdcoab
