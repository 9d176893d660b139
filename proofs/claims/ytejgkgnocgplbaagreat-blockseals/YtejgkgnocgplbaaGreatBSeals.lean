/- BlockSeals: the walk of the law, over the bundle of contracts. -/
import Derived.Test.YtejgkgnocgplbaaGreatPart15
import Derived.Test.YtejgkgnocgplbaaGreatPart19
import Derived.Test.YtejgkgnocgplbaaGreatPart16
import Derived.Deep.CutRange
namespace Go.Proofs.YtejgkgnocgplbaaGreat
set_option linter.unusedVariables false
set_option linter.unusedSimpArgs false
open Go.RowKit Dg Cr

set_option maxRecDepth 100000 in
set_option maxHeartbeats 16000000 in
theorem bseals_any {Co : World → Nat → Nat → Nat → Nat → Nat → Prop} (C : Blk Co) (CU : UnsealC Co) (CO : OpenC Co) (CC : CountC Co) (W : World) (a : Option Addr) (len cap : Nat) (fa : Option Addr) (flen fcap : Nat) (fz : List Int) (whole : Bool) (A : Nat → Option Addr) (L K : Nat → Nat) (Z : Nat → List Int) (hlen : len ≤ maxLen) (hr : RowsAt W a len A L K Z) (hfr : IsRow .u8 W fa flen fcap fz) :
    Calls Tryz.prog 4 #[.slice a len cap, .slice fa flen fcap, .bool whole] W fun e W' => e = .returned (.bool true) ∧ Below W.heap.size W W' := by
  unfold maxLen at hlen
  have HROWS := hid_of hr
  clear hr hfr
  go_enter Tryz.func4, Tryz.ntmps4
  go_wp2_with fail
  refine (C.newB W).mono ?_
  rintro e w1 ⟨b, top, rfl, hco1, hb1⟩
  have HCO1 := hid_of hco1
  have HB1 := hid_of hb1
  clear hco1 hb1
  go_wp2_with fail
  go_loopw [8, 9, 10] (fun vn vm vi wr => ∃ n m i : Nat, n ≤ i ∧ m ≤ 2 * i ∧ i ≤ 6 ∧ vn = .int .i64 (n : Int) ∧ vm = .int .i64 (m : Int) ∧ vi = .int .i64 (i : Int) ∧ Hid (Co wr b W.heap.size top n m) ∧ Hid (Below W.heap.size W wr)) (fun _ _ vi _ => 6 - (intOf vi).toNat)
  case atStart => exact ⟨0, 0, 0, Nat.le_refl _, Nat.le_refl _, Nat.zero_le _, rfl, rfl, rfl, HCO1.out, HB1.out⟩
  case round =>
    obtain ⟨n, m, i, hni, hmi, hi6, rfl, rfl, rfl, hco, hbr⟩ := hrel
    have hsr : W.heap.size ≤ wr.heap.size := hbr.out.size
    rcases (by omega : (i < len ∧ i < 6) ∨ ¬ i < len ∨ (i < len ∧ ¬ i < 6)) with ⟨hil, hi⟩ | hil | ⟨hil, hi⟩
    · obtain ⟨rb, ro, rfl, hrb, hrc, hrow⟩ := HROWS.out i hil
      obtain ⟨l, hll, h256, hbs, hc1, hc2, hc3⟩ := Bs.of_row (n := 140) hrow
      have hrcr : wr.cell? ⟨rb, ro + i, none⟩ = some (.slice (A i) (L i) (K i)) := (hbr.out.cell (p := ⟨rb, ro + i, none⟩) hrb).trans hrc
      have HLL : Hid (min (L i) 140 = l.length) := hll.symm
      have hl140 : l.length ≤ 140 := by omega
      have H256 := hid_of h256
      have HBS := hid_of (hbs.below hbr.out)
      have HFAR := hid_of (far_old (top := top) hbs.at_ (Nat.le_refl _))
      have HC3 := hid_of hc3
      obtain ⟨⟨S, k⟩, hSk⟩ : ∃ R, R = sealOut l := ⟨_, rfl⟩
      have HSR := hid_of hSk
      have hcase : (k = 0 ∧ S.length = 128) ∨ (k = 4 ∧ S = []) := by
        unfold sealOut at hSk
        split at hSk
        · cases hSk; exact .inr ⟨rfl, rfl⟩
        · rename_i h124; cases hSk; exact .inl ⟨rfl, length_sealL (by omega)⟩
      have HS256 : Hid (∀ x ∈ S, x < 256) := by
        unfold sealOut at hSk
        split at hSk
        · cases hSk; exact fun x hx => by simp at hx
        · cases hSk; exact sealL_lt h256
      clear hll h256 hbs hc3 hrow hrc hSk
      obtain ⟨n1, hn1⟩ : ∃ n1 : Nat, (n : Int) + 1 = (n1 : Int) := ⟨n + 1, by omega⟩
      have HN1 : Hid (n1 = n + 1) := by show _ = _; omega
      have hn1b : n1 ≤ i + 1 := by omega
      have HCUT : Hid (∀ wx : World, Calls Tryz.prog 15 #[.slice (A i) (L i) (K i), .int .i64 140] wx fun e w' => e = .returned (.slice (A i) l.length (K i)) ∧ wx = w') := fun wx => by
        have h1 := cut_any wx (A i) (L i) (K i) 140 (by decide) hc1 hc2 HC3.out
        rw [HLL.out] at h1
        exact h1
      clear hc1 hc2 HC3 HLL
      generalize A i = la at *
      generalize L i = ll at *
      generalize K i = lk at *
      rcases (by rcases hcase with ⟨h1, h2⟩ | ⟨h1, h2⟩; exact .inl ⟨h1, by omega, by omega, fun wx h => by rw [HN1.out]; exact h⟩; exact .inr ⟨h1, by rw [h2]; decide, by rw [h2]; decide, fun wx h => h⟩ : (k = 0 ∧ 0 < S.length ∧ S.length ≤ 128 ∧ ∀ wx, Co wx b W.heap.size top (if (0 : Int) = 0 then n + 1 else n) m → Co wx b W.heap.size top n1 m) ∨ (k = 4 ∧ ¬ 0 < S.length ∧ S.length ≤ 128 ∧ ∀ wx, Co wx b W.heap.size top (if (4 : Int) = 0 then n + 1 else n) m → Co wx b W.heap.size top n m)) with ⟨rfl, hS, hS2, hq⟩ | ⟨rfl, hS, hS2, hq⟩
      all_goals
        clear hcase
        have HQ := hid_of hq
        clear hq
        go_wp2_with fail
        refine (HCUT.out wr).mono ?_
        rintro e w0 ⟨rfl, rfl⟩
        go_wp2_with fail
        refine (C.sealB wr b _ top n m la lk l _ hco.out HBS.out HFAR.out (by omega) (by omega) H256.out HSR.out).mono ?_
        rintro e w2 ⟨v2, rfl, h2, hco2, hk2⟩
        have HO2 := hid_of h2
        have HBS2 := hid_of (HBS.out.co hk2 HFAR.out)
        have HB2 := hid_of (co_below hbr.out hk2 (Nat.le_refl _))
        have hs2 : W.heap.size ≤ w2.heap.size := HB2.out.size
        have HCO2 := hid_of hco2
        clear h2 hco2 hk2 HBS hco hbr
        go_wp2_with fail
        refine (rseal_any w2 la lk l HBS2.out (by omega) H256.out _ HSR.out).mono ?_
        rintro e w3 ⟨v3, rfl, h3, hb3⟩
        obtain ⟨sa, sc, rfl, hbs3⟩ := OwnBytes.bs h3
        have HS3 := hid_of hbs3
        have HF3 := hid_of (far_own (base := W.heap.size) (top := top) h3 (C.lt HCO2.out).2.2)
        have HT3 : Hid (SlAt w3 v2 S) := (SlAt.of_owns HO2.out).below hb3
        have HBS3 := hid_of (HBS2.out.below hb3)
        have HB3 : Hid (Below W.heap.size W w3) := HB2.out.trans (hb3.mono hs2)
        have hs3 : W.heap.size ≤ w3.heap.size := HB3.out.size
        have HCO3 := hid_of (C.grow HCO2.out hb3)
        clear h3 hbs3 hb3 HO2 HBS2 HB2 HCO2
        go_wp2_with fail
        refine (same_any w3 _ _ S HT3.out HS3.out.at_ (by omega)).mono ?_
        rintro e w4 ⟨rfl, n4, rfl⟩
        have HS4 : Hid (Bs (w3.drewN n4) sa sc S) := ⟨HS3.out.at_.drewN n4, HS3.out.le, HS3.out.nil⟩
        have HBS4 : Hid (Bs (w3.drewN n4) la lk l) := ⟨HBS3.out.at_.drewN n4, HBS3.out.le, HBS3.out.nil⟩
        have HB4 : Hid (Below W.heap.size W (w3.drewN n4)) := below_drewN HB3.out n4
        have HCO4 := hid_of (C.draws HCO3.out n4)
        clear HS3 HBS3 HB3 HCO3 HT3
        generalize w3.drewN n4 = w4 at *
        have hs4 : W.heap.size ≤ w4.heap.size := HB4.out.size
        have HC4 := hid_of (HQ.out w4 HCO4.out)
        clear HQ HCO4
        cases whole
      all_goals go_wp2_with fail
      all_goals first
        | (go_at_call_of 19 (Value.slice sa S.length sc); have HXB := HS4; have HXF : Hid (S ≠ [] → ∀ y, sa = some y → ¬ InCo W.heap.size top y.block) := fun _ => HF3.out; have HX256 := HS256; have hXl : S.length ≤ 140 := by omega
           clear HS4 HF3 HS256 HSR HBS4 HFAR H256 hS hS2 hl140 HCUT hrcr
           generalize S = X at *; generalize sa = xa at *; generalize sc = xc at *)
        | (go_at_call_of 19 (Value.slice la l.length lk); have HXB := HBS4; have HXF := HFAR; have HX256 := H256; have hXl : l.length ≤ 140 := by omega
           clear HS4 HF3 HS256 HSR HBS4 HFAR H256 hS hS2 hl140 HCUT hrcr
           generalize l = X at *; generalize la = xa at *; generalize lk = xc at *)
      all_goals
        obtain ⟨m1, hm1⟩ : ∃ m1 : Nat, (m : Int) + 1 = (m1 : Int) := ⟨m + 1, by omega⟩
        obtain ⟨m2, hm2⟩ : ∃ m2 : Nat, (m1 : Int) + 1 = (m2 : Int) := ⟨m1 + 1, by omega⟩
        have HM1 : Hid (m1 = m + 1) := by show _ = _; omega
        have HM2 : Hid (m2 = m1 + 1) := by show _ = _; omega
        have HCM1 : Hid (∀ (wx : World) (q : Nat), Co wx b W.heap.size top q (if (0 : Int) = 0 then m + 1 else m) → Co wx b W.heap.size top q m1) := fun wx q h => by rw [HM1.out]; exact h
        have HCM2 : Hid (∀ (wx : World) (q : Nat), Co wx b W.heap.size top q (if (0 : Int) = 0 then m1 + 1 else m1) → Co wx b W.heap.size top q m2) := fun wx q h => by rw [HM2.out]; exact h
        have hb1 : m1 ≤ 2 * i + 1 := by omega
        have hb2 : m2 ≤ 2 * i + 2 := by omega
        have hnen : ((n : Int) != (n : Int)) = false := by simp
        have hnen1 : ((n1 : Int) != (n1 : Int)) = false := by simp
        have hnem : ((m : Int) != (m : Int)) = false := by simp
        have hnem1 : ((m1 : Int) != (m1 : Int)) = false := by simp
        have hnem2 : ((m2 : Int) != (m2 : Int)) = false := by simp
        by_cases hw : wholeP X
        · have HW : Hid (true = decide (wholeP X)) := (decide_eq_true hw).symm
          have H128 := hid_of hw.1
          obtain ⟨U, hU⟩ : ∃ U, U = X.take 124 := ⟨_, rfl⟩
          have HUE := hid_of hU
          have HR1 : Hid ((U, 0) = unsealOut X) := by show _ = _; unfold unsealOut; rw [if_pos hw, hU]
          rcases decOut_two (X.take 124) with ⟨Y, hY, hYl⟩ | hY
          · have HR2 : Hid ((Y, 0) = openOut X) := by show _ = _; unfold openOut; rw [if_pos hw, hY]
            clear hw hU hY
            refine (CU w4 b _ top _ m xa xc X _ HC4.out HXB.out HXF.out (by omega) (by omega) HX256.out HR1.out).mono ?_
            rintro e w5 ⟨v5, rfl, h5, hco5, hk5⟩
            obtain ⟨ua, uc, rfl, hbs5⟩ := OwnBytes.bs h5
            have HU5 := hid_of hbs5
            have HUF := hid_of (far_own (base := W.heap.size) (top := top) h5 (C.lt HC4.out).2.2)
            have HCO5 := hid_of (HCM1.out _ _ hco5)
            have HX5 := hid_of (HXB.out.co hk5 HXF.out)
            have HB5 := hid_of (co_below HB4.out hk5 (Nat.le_refl _))
            clear h5 hbs5 hco5 hk5 HXB HC4 HB4
            go_wp2_with fail
            refine (CO w5 b _ top _ m1 xa xc X _ HCO5.out HX5.out HXF.out (by omega) (by omega) HX256.out HR2.out).mono ?_
            rintro e w6 ⟨v6, rfl, h6, hco6, hk6⟩
            obtain ⟨ya, yc, rfl, hn6, -, -⟩ := h6.ns
            have HY6 := hid_of hn6.at_
            have HCO6 := hid_of (HCM2.out _ _ hco6)
            have HX6 := hid_of (HX5.out.co hk6 HXF.out)
            have HU6 := hid_of (HU5.out.co hk6 (fun _ => HUF.out))
            have HB6 := hid_of (co_below HB5.out hk6 (Nat.le_refl _))
            have hs6 : W.heap.size ≤ w6.heap.size := HB6.out.size
            clear h6 hn6 hco6 hk6 HX5 HU5 HCO5 HB5
            go_wp2_with fail
            refine (ropen_any w6 xa xc X HX6.out (by omega) HX256.out _ HR2.out).mono ?_
            rintro e w7 hg
            obtain ⟨za, zc, rfl, -, hn7, hb7⟩ := hg.ok
            have HZ7 := hid_of hn7.at_
            have HY7 := hid_of (HY6.out.mono hb7)
            have HX7 := hid_of (HX6.out.below hb7)
            have HU7 := hid_of (HU6.out.below hb7)
            have HCO7 := hid_of (C.grow HCO6.out hb7)
            have HB7 : Hid (Below W.heap.size W w7) := HB6.out.trans (hb7.mono hs6)
            have hs7 : W.heap.size ≤ w7.heap.size := HB7.out.size
            clear hg hn7 hb7 HY6 HX6 HU6 HCO6 HB6
            go_wp2_with fail
            refine (rwhole_any w7 xa xc X HX7.out (by omega) HX256.out _ HW.out).mono ?_
            rintro e w8 ⟨rfl, hb8⟩
            have HZ8 := hid_of (HZ7.out.mono hb8)
            have HY8 := hid_of (HY7.out.mono hb8)
            have HX8 := hid_of (HX7.out.below hb8)
            have HU8 := hid_of (HU7.out.below hb8)
            have HCO8 := hid_of (C.grow HCO7.out hb8)
            have HB8 : Hid (Below W.heap.size W w8) := HB7.out.trans (hb8.mono hs7)
            clear hb8 HZ7 HY7 HX7 HU7 HCO7 HB7
            have hXc := HX8.out.le
            have hsl : ∀ Wx : World, (Instr.sliceAt 27 (.slice xa X.length xc) none (some (.int .i64 124)) none).run Tryz.prog Wx = .ok (.slice xa 124 xc) Wx := fun Wx => slice_hi xa X.length xc 124 (by have := H128.out; omega) Wx
            have HXU : Hid (SlAt w8 (.slice xa 124 xc) U) := by rw [HUE.out]; exact HX8.out.hi 124 (by have := H128.out; omega)
            go_wp2_with fail
            refine (same_any w8 _ _ U HU8.out.at_ HXU.out (by rw [HUE.out, List.length_take]; omega)).mono ?_
            rintro e w9 ⟨rfl, n9, rfl⟩
            have HZ9 := hid_of (HZ8.out.drewN n9)
            have HY9 := hid_of (HY8.out.drewN n9)
            have HCO9 := hid_of (C.draws HCO8.out n9)
            have HB9 : Hid (Below W.heap.size W (w8.drewN n9)) := below_drewN HB8.out n9
            clear HZ8 HY8 HX8 HU8 HCO8 HB8 HXU
            generalize w8.drewN n9 = w9 at *
            go_wp2_with fail
            refine (sameInt_any w9 ya za yc zc Y HY9.out HZ9.out (by first | omega | simp)).mono ?_
            rintro e w10 ⟨rfl, n10, rfl⟩
            have HCO10 := hid_of (C.draws HCO9.out n10)
            have HB10 : Hid (Below W.heap.size W (w9.drewN n10)) := below_drewN HB9.out n10
            clear HZ9 HY9 HCO9 HB9
            generalize w9.drewN n10 = w10 at *
            go_wp2_with fail
            refine (CC w10 b _ top _ _ HCO10.out).mono ?_
            rintro e w11 ⟨rfl, d11, rfl⟩
            have HCO11 := hid_of (C.draws HCO10.out d11)
            have HB11 : Hid (Below W.heap.size W (w10.drewN d11)) := below_drewN HB10.out d11
            clear HCO10 HB10
            go_wp2_with fail
            exact ⟨⟨_, _, i + 1, by omega, by omega, by omega, rfl, rfl, by go_num, HCO11, HB11⟩, by (simp [intOf]) <;> omega⟩
          · have HR2 : Hid (([], 2) = openOut X) := by show _ = _; unfold openOut; rw [if_pos hw, hY]
            clear hw hU hY
            refine (CU w4 b _ top _ m xa xc X _ HC4.out HXB.out HXF.out (by omega) (by omega) HX256.out HR1.out).mono ?_
            rintro e w5 ⟨v5, rfl, h5, hco5, hk5⟩
            obtain ⟨ua, uc, rfl, hbs5⟩ := OwnBytes.bs h5
            have HU5 := hid_of hbs5
            have HUF := hid_of (far_own (base := W.heap.size) (top := top) h5 (C.lt HC4.out).2.2)
            have HCO5 := hid_of (HCM1.out _ _ hco5)
            have HX5 := hid_of (HXB.out.co hk5 HXF.out)
            have HB5 := hid_of (co_below HB4.out hk5 (Nat.le_refl _))
            clear h5 hbs5 hco5 hk5 HXB HC4 HB4
            go_wp2_with fail
            refine (CO w5 b _ top _ m1 xa xc X _ HCO5.out HX5.out HXF.out (by omega) (by omega) HX256.out HR2.out).mono ?_
            rintro e w6 ⟨v6, rfl, h6, hco6, hk6⟩
            obtain ⟨ya, yc, rfl, hn6, -, -⟩ := h6.ns
            have HY6 := hid_of hn6.at_
            have HCO6 : Hid (Co w6 b W.heap.size top _ m1) := hco6
            have HX6 := hid_of (HX5.out.co hk6 HXF.out)
            have HU6 := hid_of (HU5.out.co hk6 (fun _ => HUF.out))
            have HB6 := hid_of (co_below HB5.out hk6 (Nat.le_refl _))
            have hs6 : W.heap.size ≤ w6.heap.size := HB6.out.size
            clear h6 hn6 hco6 hk6 HX5 HU5 HCO5 HB5
            go_wp2_with fail
            refine (ropen_any w6 xa xc X HX6.out (by omega) HX256.out _ HR2.out).mono ?_
            rintro e w7 hg
            obtain ⟨za, zc, rfl, -, hn7, hb7⟩ := hg.ok
            have HZ7 := hid_of hn7.at_
            have HY7 := hid_of (HY6.out.mono hb7)
            have HX7 := hid_of (HX6.out.below hb7)
            have HU7 := hid_of (HU6.out.below hb7)
            have HCO7 := hid_of (C.grow HCO6.out hb7)
            have HB7 : Hid (Below W.heap.size W w7) := HB6.out.trans (hb7.mono hs6)
            have hs7 : W.heap.size ≤ w7.heap.size := HB7.out.size
            clear hg hn7 hb7 HY6 HX6 HU6 HCO6 HB6
            go_wp2_with fail
            refine (rwhole_any w7 xa xc X HX7.out (by omega) HX256.out _ HW.out).mono ?_
            rintro e w8 ⟨rfl, hb8⟩
            have HZ8 := hid_of (HZ7.out.mono hb8)
            have HY8 := hid_of (HY7.out.mono hb8)
            have HX8 := hid_of (HX7.out.below hb8)
            have HU8 := hid_of (HU7.out.below hb8)
            have HCO8 := hid_of (C.grow HCO7.out hb8)
            have HB8 : Hid (Below W.heap.size W w8) := HB7.out.trans (hb8.mono hs7)
            clear hb8 HZ7 HY7 HX7 HU7 HCO7 HB7
            have hXc := HX8.out.le
            have hsl : ∀ Wx : World, (Instr.sliceAt 27 (.slice xa X.length xc) none (some (.int .i64 124)) none).run Tryz.prog Wx = .ok (.slice xa 124 xc) Wx := fun Wx => slice_hi xa X.length xc 124 (by have := H128.out; omega) Wx
            have HXU : Hid (SlAt w8 (.slice xa 124 xc) U) := by rw [HUE.out]; exact HX8.out.hi 124 (by have := H128.out; omega)
            go_wp2_with fail
            refine (same_any w8 _ _ U HU8.out.at_ HXU.out (by rw [HUE.out, List.length_take]; omega)).mono ?_
            rintro e w9 ⟨rfl, n9, rfl⟩
            have HZ9 := hid_of (HZ8.out.drewN n9)
            have HY9 := hid_of (HY8.out.drewN n9)
            have HCO9 := hid_of (C.draws HCO8.out n9)
            have HB9 : Hid (Below W.heap.size W (w8.drewN n9)) := below_drewN HB8.out n9
            clear HZ8 HY8 HX8 HU8 HCO8 HB8 HXU
            generalize w8.drewN n9 = w9 at *
            go_wp2_with fail
            refine (sameInt_any w9 ya za yc zc [] HY9.out HZ9.out (by first | omega | simp)).mono ?_
            rintro e w10 ⟨rfl, n10, rfl⟩
            have HCO10 := hid_of (C.draws HCO9.out n10)
            have HB10 : Hid (Below W.heap.size W (w9.drewN n10)) := below_drewN HB9.out n10
            clear HZ9 HY9 HCO9 HB9
            generalize w9.drewN n10 = w10 at *
            go_wp2_with fail
            refine (CC w10 b _ top _ _ HCO10.out).mono ?_
            rintro e w11 ⟨rfl, d11, rfl⟩
            have HCO11 := hid_of (C.draws HCO10.out d11)
            have HB11 : Hid (Below W.heap.size W (w10.drewN d11)) := below_drewN HB10.out d11
            clear HCO10 HB10
            go_wp2_with fail
            exact ⟨⟨_, _, i + 1, by omega, by omega, by omega, rfl, rfl, by go_num, HCO11, HB11⟩, by (simp [intOf]) <;> omega⟩
        · have HW : Hid (false = decide (wholeP X)) := (decide_eq_false hw).symm
          have HR1 : Hid (([], 2) = unsealOut X) := by show _ = _; unfold unsealOut; rw [if_neg hw]
          have HR2 : Hid (([], 2) = openOut X) := by show _ = _; unfold openOut; rw [if_neg hw]
          clear hw
          refine (CU w4 b _ top _ m xa xc X _ HC4.out HXB.out HXF.out (by omega) (by omega) HX256.out HR1.out).mono ?_
          rintro e w5 ⟨v5, rfl, h5, hco5, hk5⟩
          obtain ⟨ua, uc, rfl, hbs5⟩ := OwnBytes.bs h5
          have HU5 := hid_of hbs5
          have HUF := hid_of (far_own (base := W.heap.size) (top := top) h5 (C.lt HC4.out).2.2)
          have HCO5 : Hid (Co w5 b W.heap.size top _ m) := hco5
          have HX5 := hid_of (HXB.out.co hk5 HXF.out)
          have HB5 := hid_of (co_below HB4.out hk5 (Nat.le_refl _))
          clear h5 hbs5 hco5 hk5 HXB HC4 HB4
          go_wp2_with fail
          refine (CO w5 b _ top _ m xa xc X _ HCO5.out HX5.out HXF.out (by omega) (by omega) HX256.out HR2.out).mono ?_
          rintro e w6 ⟨v6, rfl, h6, hco6, hk6⟩
          obtain ⟨ya, yc, rfl, hn6, -, -⟩ := h6.ns
          have HY6 := hid_of hn6.at_
          have HCO6 : Hid (Co w6 b W.heap.size top _ m) := hco6
          have HX6 := hid_of (HX5.out.co hk6 HXF.out)
          have HU6 := hid_of (HU5.out.co hk6 (fun _ => HUF.out))
          have HB6 := hid_of (co_below HB5.out hk6 (Nat.le_refl _))
          have hs6 : W.heap.size ≤ w6.heap.size := HB6.out.size
          clear h6 hn6 hco6 hk6 HX5 HU5 HCO5 HB5
          go_wp2_with fail
          refine (ropen_any w6 xa xc X HX6.out (by omega) HX256.out _ HR2.out).mono ?_
          rintro e w7 hg
          obtain ⟨za, zc, rfl, -, hn7, hb7⟩ := hg.ok
          have HZ7 := hid_of hn7.at_
          have HY7 := hid_of (HY6.out.mono hb7)
          have HX7 := hid_of (HX6.out.below hb7)
          have HU7 := hid_of (HU6.out.below hb7)
          have HCO7 := hid_of (C.grow HCO6.out hb7)
          have HB7 : Hid (Below W.heap.size W w7) := HB6.out.trans (hb7.mono hs6)
          have hs7 : W.heap.size ≤ w7.heap.size := HB7.out.size
          clear hg hn7 hb7 HY6 HX6 HU6 HCO6 HB6
          go_wp2_with fail
          refine (rwhole_any w7 xa xc X HX7.out (by omega) HX256.out _ HW.out).mono ?_
          rintro e w8 ⟨rfl, hb8⟩
          have HZ8 := hid_of (HZ7.out.mono hb8)
          have HY8 := hid_of (HY7.out.mono hb8)
          have HX8 := hid_of (HX7.out.below hb8)
          have HU8 := hid_of (HU7.out.below hb8)
          have HCO8 := hid_of (C.grow HCO7.out hb8)
          have HB8 : Hid (Below W.heap.size W w8) := HB7.out.trans (hb8.mono hs7)
          clear hb8 HZ7 HY7 HX7 HU7 HCO7 HB7
          obtain ⟨n9, hn9⟩ : ∃ n9, n9 = 0 := ⟨_, rfl⟩
          have e9 : w8 = w8.drewN n9 := by rw [hn9]; rfl
          have HZ9 := hid_of (HZ8.out.drewN n9)
          have HY9 := hid_of (HY8.out.drewN n9)
          have HCO9 := hid_of (C.draws HCO8.out n9)
          have HB9 : Hid (Below W.heap.size W (w8.drewN n9)) := below_drewN HB8.out n9
          rw [← e9] at HZ9 HY9 HCO9 HB9
          clear e9 hn9 HZ8 HY8 HX8 HU8 HCO8 HB8
          go_wp2_with fail
          refine (sameInt_any w8 ya za yc zc [] HY9.out HZ9.out (by first | omega | simp)).mono ?_
          rintro e w10 ⟨rfl, n10, rfl⟩
          have HCO10 := hid_of (C.draws HCO9.out n10)
          have HB10 : Hid (Below W.heap.size W (w8.drewN n10)) := below_drewN HB9.out n10
          clear HZ9 HY9 HCO9 HB9
          generalize w8.drewN n10 = w10 at *
          go_wp2_with fail
          refine (CC w10 b _ top _ _ HCO10.out).mono ?_
          rintro e w11 ⟨rfl, d11, rfl⟩
          have HCO11 := hid_of (C.draws HCO10.out d11)
          have HB11 : Hid (Below W.heap.size W (w10.drewN d11)) := below_drewN HB10.out d11
          clear HCO10 HB10
          go_wp2_with fail
          exact ⟨⟨_, _, i + 1, by omega, by omega, by omega, rfl, rfl, by go_num, HCO11, HB11⟩, by (simp [intOf]) <;> omega⟩
    · go_wp2_with fail
      refine (wakes9_any C _).mono ?_
      rintro e w2 ⟨rfl, hb2⟩
      have HB2 : Hid (Below W.heap.size W w2) := hbr.out.trans (hb2.mono hsr)
      clear hb2
      go_wp2
      go_ret
      exact ⟨rfl, HB2.out⟩
    · go_wp2_with fail
      refine (wakes9_any C _).mono ?_
      rintro e w2 ⟨rfl, hb2⟩
      have HB2 : Hid (Below W.heap.size W w2) := hbr.out.trans (hb2.mono hsr)
      clear hb2
      go_wp2
      go_ret
      exact ⟨rfl, HB2.out⟩

end Go.Proofs.YtejgkgnocgplbaaGreat
