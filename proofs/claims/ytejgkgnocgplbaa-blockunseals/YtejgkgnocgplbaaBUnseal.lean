/- BlockUnseals: the walk of the law, over the bundle of contracts. -/
import Derived.Test.YtejgkgnocgplbaaPart09
namespace Go.Proofs.Ytejgkgnocgplbaa
set_option linter.unusedVariables false
set_option linter.unusedSimpArgs false
open Go.RowKit Dg Cr

theorem fillF_zero {l : List Nat} {i : Nat} (h1 : l.length ≤ i) (h2 : i < 124) : (fillF l)[i]? = some 0 := by
  unfold fillF
  rw [List.getElem?_append_right h1, List.getElem?_replicate, if_pos (by omega)]
theorem lit_byte (w : World) (x : Nat) : Bs (w.alloc (.cells #[.int .u8 (x : Int)] 5)) (some ⟨w.heap.size, 0, none⟩) 1 [x] :=
  ⟨SlAt.of_owns (own_new w w.heap.size #[.int .u8 (x : Int)] 1 [x] rfl rfl (by decide) (Nat.le_refl _)), Nat.le_refl _, fun e => by cases e⟩

set_option maxRecDepth 100000 in
set_option maxHeartbeats 8000000 in
theorem bunseal_any {Co : World → Nat → Nat → Nat → Nat → Nat → Prop} (C : Blk Co) (CU : UnsealC Co) (W : World) (a : Option Addr) (len cap : Nat) (z : List Int) (n : Int) (hr : IsRow .u8 W a len cap z) (hn : I64 n) :
    Calls Try.prog 4 #[.slice a len cap, .int .i64 n] W fun e W' => e = .returned (.bool true) ∧ Below W.heap.size W W' := by
  obtain ⟨i0, hi, hz0, hz1, hz2⟩ := info_parts Try.info5
  obtain ⟨l, hll, h256, hbs, hc1, hc2, hc3⟩ := Bs.of_row (n := 124) hr
  have HLL : Hid (min len 124 = l.length) := hll.symm
  have hl124 : l.length ≤ 124 := by omega
  have HBS := hid_of hbs
  have H256 := hid_of h256
  have HC3 := hid_of hc3
  obtain ⟨hn1, hn2⟩ := hn
  obtain ⟨S, hS⟩ : ∃ S, S = sealL l := ⟨_, rfl⟩
  obtain ⟨U, hU⟩ : ∃ U, U = fillF l := ⟨_, rfl⟩
  have HR1 : Hid ((S, 0) = sealOut l) := by show _ = _; unfold sealOut; rw [if_neg (by omega), hS]
  have HR2 : Hid ((U, 0) = unsealOut S) := by show _ = _; rw [hS, unseal_seal hl124, hU]
  have hSl : S.length = 128 := by rw [hS]; exact length_sealL hl124
  have HSL := hid_of hSl
  have HS256 : Hid (∀ x ∈ S, x < 256) := by rw [hS]; exact sealL_lt h256
  have hUl : U.length = 124 := by rw [hU]; exact length_fillF hl124
  have HUL := hid_of hUl
  have HUT : Hid (U.take l.length = l) := by show _ = _; rw [hU]; unfold fillF; exact List.take_left
  have HUZ : Hid (∀ i, l.length ≤ i → i < 124 → U[i]? = some 0) := fun i h1 h2 => by rw [hU]; exact fillF_zero h1 h2
  obtain ⟨q, hq⟩ : ∃ q : Nat, n % 128 = (q : Int) := ⟨(n % 128).toNat, by omega⟩
  have HQ := hid_of hq
  have hq128 : q < 128 := by omega
  have HR3 : Hid (([], 2) = unsealOut (S.take q)) := by show _ = _; unfold unsealOut; rw [if_neg (fun h => by have := h.1; simp at this; omega)]
  have HR4 : Hid (([], 2) = unsealOut (S ++ [0])) := by show _ = _; unfold unsealOut; rw [if_neg (fun h => by have := h.1; simp at this; omega)]
  obtain ⟨M, hM⟩ : ∃ M : Nat, 125 + n % 9 = (M : Int) := ⟨(125 + n % 9).toNat, by omega⟩
  have HMM := hid_of hM
  have hM1 : 124 < M := by omega
  have hM2 : M ≤ 140 := by omega
  obtain ⟨Z, hZ⟩ : ∃ Z : List Nat, Z = List.replicate M 0 := ⟨_, rfl⟩
  have HZL : Hid (Z.length = M) := by show _ = _; rw [hZ]; simp
  have HZ : Hid (Z = List.replicate M 0) := hZ
  have HZ256 : Hid (∀ x ∈ Z, x < 256) := by rw [hZ]; exact fun x hx => by have := List.eq_of_mem_replicate hx; omega
  have HR5 : Hid (([], 4) = sealOut Z) := by show _ = _; unfold sealOut; rw [if_pos (by rw [HZL.out]; exact hM1)]
  clear hll h256 hbs hc3 hr hS hU hSl hUl hq hM hZ
  go_enter Try.func4, Try.ntmps4
  go_wp2_with fail
  refine (cut_any W a len cap 124 (by decide) hc1 hc2 HC3.out).mono ?_
  rw [HLL.out]
  rintro e w0 ⟨rfl, rfl⟩
  clear HLL HC3
  go_wp2_with fail
  refine (C.newB W).mono ?_
  rintro e w1 ⟨b, top, rfl, hco1, hb1⟩
  have HCO1 := hid_of hco1
  have HB1 := hid_of hb1
  have HBS1 := hid_of (HBS.out.below hb1)
  have HFAR := hid_of (far_old (top := top) HBS.out.at_ (Nat.le_refl _))
  have htop1 : top ≤ w1.heap.size := (C.lt hco1).2.2
  clear hco1 hb1 HBS
  go_wp2_with fail
  refine (C.sealB w1 b _ top 0 0 a cap l _ HCO1.out HBS1.out HFAR.out (by omega) (by decide) H256.out HR1.out).mono ?_
  rintro e w2 ⟨v2, rfl, h2, hco2, hk2⟩
  obtain ⟨a2, c2, rfl, hbs2⟩ := OwnBytes.bs h2
  have HO2 := hid_of h2
  have HF2 := hid_of (far_own (base := W.heap.size) h2 htop1)
  have HT2 := hid_of hbs2
  have HCO2 := hid_of hco2
  have HBS2 := hid_of (HBS1.out.co hk2 HFAR.out)
  have HB2 := hid_of (co_below HB1.out hk2 (Nat.le_refl _))
  have hs2 : W.heap.size ≤ w2.heap.size := HB2.out.size
  have htop2 : top ≤ w2.heap.size := (C.lt hco2).2.2
  clear h2 hbs2 hco2 hk2 HBS1 HB1 HCO1
  go_wp2_with fail
  refine (CU w2 b _ top _ 0 a2 c2 S _ HCO2.out HT2.out (fun _ => HF2.out) (by rw [HSL.out]; omega) (by decide) HS256.out HR2.out).mono ?_
  rintro e w3 ⟨v3, rfl, h3, hco3, hk3⟩
  obtain ⟨a3, c3, rfl, hbs3⟩ := OwnBytes.bs h3
  have HT3 := hid_of hbs3
  have HF3 := hid_of (far_own (base := W.heap.size) h3 htop2)
  have HCO3 := hid_of hco3
  have HS3 := hid_of (HT2.out.co hk3 (fun _ => HF2.out))
  have HBS3 := hid_of (HBS2.out.co hk3 HFAR.out)
  have HB3 := hid_of (co_below HB2.out hk3 (Nat.le_refl _))
  have hs3 : W.heap.size ≤ w3.heap.size := HB3.out.size
  clear h3 hbs3 hco3 hk3 HBS2 HB2 HCO2 HT2 HO2
  have hS128 : ((S.length : Int) != 128) = false := bne_eq_false_iff_eq.2 (by rw [HSL.out]; rfl)
  have hU124 : ((U.length : Int) != 124) = false := bne_eq_false_iff_eq.2 (by rw [HUL.out]; rfl)
  have hUc : U.length ≤ c3 := HT3.out.le
  have hU1000 : U.length ≤ 1000 := by rw [HUL.out]; omega
  have hlU : l.length ≤ U.length := by rw [HUL.out]; exact hl124
  have hsl := slice_hi a3 U.length c3 l.length (by omega)
  have HUS : Hid (SlAt w3 (.slice a3 l.length c3) l) := by
    have h1 := HT3.out.hi l.length hlU
    rw [HUT.out] at h1
    exact h1
  go_wp2_with fail
  refine (same_any w3 _ _ l HUS.out HBS3.out.at_ (by omega)).mono ?_
  rintro e w4 ⟨rfl, n4, rfl⟩
  have HT4 : Hid (SlAt (w3.drewN n4) (.slice a3 U.length c3) U) := HT3.out.at_.drewN n4
  have HS4 : Hid (Bs (w3.drewN n4) a2 c2 S) := ⟨HS3.out.at_.drewN n4, HS3.out.le, HS3.out.nil⟩
  have HCO4 : Hid (Co (w3.drewN n4) b W.heap.size top _ _) := C.draws HCO3.out n4
  have HB4 : Hid (Below W.heap.size W (w3.drewN n4)) := below_drewN HB3.out n4
  have hs4 : W.heap.size ≤ (w3.drewN n4).heap.size := hs3
  clear HT3 HS3 HCO3 HB3 HBS3 HUS
  generalize w3.drewN n4 = w4 at *
  go_wp2_with fail
  go_loopw [10] (fun i wr => ∃ k : Nat, l.length ≤ k ∧ k ≤ U.length ∧ i = .int .i64 (k : Int) ∧ w4 = wr) (fun i _ => U.length - (intOf i).toNat)
  case atStart => exact ⟨l.length, Nat.le_refl _, hlU, rfl, rfl⟩
  case round =>
    obtain ⟨k, hk1, hk2, rfl, rfl⟩ := hrel
    by_cases hkU : k < U.length
    · obtain ⟨ub, uo, rfl, huc⟩ := sl_cell HT4.out (HUZ.out k hk1 (by have := HUL.out; omega))
      have huc' : w4.cell? ⟨ub, uo + k, none⟩ = some (.int .u8 0) := huc
      clear huc
      go_wp2_with fail
      exact ⟨⟨k + 1, by omega, by omega, by go_num, by trivial⟩, by (simp [intOf]) <;> omega⟩
    · go_wp2_with fail
      refine (within_any n 128 w4 hn1 hn2 (by decide) (by decide)).mono ?_
      rw [HQ.out]
      rintro e w0 ⟨rfl, rfl⟩
      have hScap := HS4.out.le
      have hsq := slice_hi a2 S.length c2 q (by have := HSL.out; omega)
      have hqS : q ≤ S.length := by have := HSL.out; omega
      have HTQ : Hid (Bs w4 a2 c2 (S.take q)) := by
        refine ⟨?_, by simp; omega, HS4.out.nil⟩
        have h1 := HS4.out.hi q hqS
        have e : (S.take q).length = q := by simp; omega
        rw [e]
        exact h1
      have HQL : Hid ((S.take q).length = q) := by show _ = _; simp; omega
      have HCU1 := CU w4 b _ top _ _ a2 c2 (S.take q) _ HCO4.out HTQ.out (fun _ => HF2.out) (by rw [HQL.out]; omega) (by simp) (fun x hx => HS256.out x (List.mem_of_mem_take hx)) HR3.out
      rw [HQL.out] at HCU1
      have HCU1' := hid_of HCU1
      clear HCU1
      go_wp2_with fail
      refine HCU1'.out.mono ?_
      rintro e w5 ⟨v5, rfl, h5, hco5, hk5⟩
      have HCO5 := hid_of hco5
      have HS5 := hid_of (HS4.out.co hk5 (fun _ => HF2.out))
      have HB5 := hid_of (co_below HB4.out hk5 (Nat.le_refl _))
      have hs5 : W.heap.size ≤ w5.heap.size := HB5.out.size
      have htop5 : top ≤ w5.heap.size := (C.lt hco5).2.2
      clear h5 hco5 hk5 HCU1' HCO4 HB4
      go_wp2_with fail
      refine (copyB_any w5 _ S HS5.out.at_ (by rw [HSL.out]; omega) (fun n' c' h => by cases h; exact HS5.out.nil rfl)).mono ?_
      rintro e w6 ⟨v6, rfl, h6, hb6⟩
      have HO6 := hid_of h6
      have HCO6 := hid_of (C.grow HCO5.out hb6)
      have HB6 : Hid (Below W.heap.size W w6) := HB5.out.trans (hb6.mono hs5)
      have hs6 : W.heap.size ≤ w6.heap.size := HB6.out.size
      have hs56 : w5.heap.size ≤ w6.heap.size := hb6.size
      clear h6 hb6 HCO5 HS5 HB5
      have HOA : Hid (OwnBytes (w6.alloc (.cells #[.int .u8 ((0 : Nat) : Int)] 5)) w5.heap.size v6 S) := World.ownsRow.alloc HO6.out _
      have HBA : Hid (Below W.heap.size W (w6.alloc (.cells #[.int .u8 ((0 : Nat) : Int)] 5))) := HB6.out.alloc hs6 _
      have HCOA : Hid (Co (w6.alloc (.cells #[.int .u8 ((0 : Nat) : Int)] 5)) b W.heap.size top _ _) := C.grow HCO6.out ((Below.refl _ _).alloc (Nat.le_refl _) _)
      have HLO := hid_of (lit_byte w6 0)
      have hsa : w5.heap.size ≤ (w6.alloc (.cells #[.int .u8 ((0 : Nat) : Int)] 5)).heap.size := by simp; omega
      go_wp2_with (at_builtin; go_must (refine wpList_append_bytes (w6.alloc (.cells #[.int .u8 ((0 : Nat) : Int)] 5)) rfl (.tmp 84) (.tmp 85) rfl w5.heap.size _ S rfl HOA.out (some ⟨w6.heap.size, 0, none⟩) 1 [0] rfl HLO.out (by simp; have := HSL.out; omega) hsa ?_))
      intro v7 w7 g1 g2 g3
      obtain ⟨T, hT⟩ : ∃ T, T = S ++ [0] := ⟨_, rfl⟩
      rw [← hT] at g1
      have HR4' : Hid (([], 2) = unsealOut T) := by rw [hT]; exact HR4.out
      have hTl : T.length = 129 := by rw [hT]; simp [HSL.out]
      have HTL := hid_of hTl
      have HT256 : Hid (∀ x ∈ T, x < 256) := by
        intro x hx
        rw [hT] at hx
        rcases List.mem_append.1 hx with h | h
        · exact HS256.out x h
        · simp at h; omega
      obtain ⟨a7, c7, rfl, hbs7⟩ := OwnBytes.bs g1.out
      have HT7 := hid_of hbs7
      have HF7 := hid_of (far_own (base := W.heap.size) g1.out htop5)
      have HLT6 : Hid (∀ k, v6.ownBlock = some k → w5.heap.size ≤ k) := fun k hk => (World.ownsRow.lt HO6.out k hk).1
      have HCO7 : Hid (Co w7 b W.heap.size top _ _) := C.keep HCOA.out g2.out (fun k hk hf => by have h1 := HLT6.out k hf; have h2 := hk.2; omega)
      have HB7 : Hid (Below W.heap.size W w7) := g2.out.below_of HBA.out (fun k hk => Nat.le_trans hs5 (HLT6.out k hk)) HBA.out.size
      have hs7 : W.heap.size ≤ w7.heap.size := HB7.out.size
      clear g1 g2 g3 hT hTl hbs7 HOA HBA HCOA HLO HO6 HCO6 HB6
      go_wp2_with fail
      refine (CU w7 b _ top _ _ a7 c7 T _ HCO7.out HT7.out (fun _ => HF7.out) (by rw [HTL.out]; omega) (by simp) HT256.out HR4'.out).mono ?_
      rintro e w8 ⟨v8, rfl, h8, hco8, hk8⟩
      have HCO8 := hid_of hco8
      have HB8 := hid_of (co_below HB7.out hk8 (Nat.le_refl _))
      have hs8 : W.heap.size ≤ w8.heap.size := HB8.out.size
      clear h8 hco8 hk8 HT7 HCO7 HB7
      go_wp2_with fail
      refine (within_any n 9 w8 hn1 hn2 (by decide) (by decide)).mono ?_
      rintro e w0 ⟨rfl, rfl⟩
      go_wp2_with (at_make; go_must (refine wpList_make_full _ rfl _ _ 32 rfl w8.heap.size 5 i0 (.int .u8 0) 1 Try.underlying32 hi hz0 hz1 _ _ _ _ Z.length rfl rfl (by rw [HZL.out]; exact HMM.out) (by rw [HZL.out]; exact HMM.out) (by rw [hz2, HZL.out]; omega) (by unfold maxLen; rw [HZL.out]; omega) (Nat.le_refl _) ?_))
      intro w9 hown hgr
      have hb9 : Below w8.heap.size w8 w9 := (Below.refl _ _).grown hgr (Nat.le_refl _) (fun k hk => by cases hk)
      have ho9 : OwnBytes w9 w8.heap.size (.slice (some ⟨w8.heap.size, 0, none⟩) Z.length Z.length) Z := by
        show World.ownsRow _ _ _ _ _ _ _
        have e := made_zeros Z.length
        rw [Nat.mul_one] at e
        have e2 : u8s Z = u8s (List.replicate Z.length 0) := by rw [HZL.out, ← HZ.out]
        rw [e2, ← e]
        exact hown
      have HT9 : Hid (Bs w9 (some ⟨w8.heap.size, 0, none⟩) Z.length Z) := ⟨SlAt.of_owns ho9, Nat.le_refl _, fun e => by cases e⟩
      have HF9 := hid_of (far_own (base := W.heap.size) ho9 (C.lt HCO8.out).2.2)
      have HCO9 := hid_of (C.grow HCO8.out hb9)
      have HB9 : Hid (Below W.heap.size W w9) := HB8.out.trans (hb9.mono hs8)
      have hs9 : W.heap.size ≤ w9.heap.size := HB9.out.size
      clear hown hgr hb9 ho9 HCO8 HB8
      go_wp2_with fail
      refine (C.sealB w9 b _ top _ _ _ _ Z _ HCO9.out HT9.out (fun _ => HF9.out) (by rw [HZL.out]; omega) (by simp) HZ256.out HR5.out).mono ?_
      rintro e w10 ⟨v10, rfl, h10, hco10, hk10⟩
      have HB10 := hid_of (co_below HB9.out hk10 (Nat.le_refl _))
      have hs10 : W.heap.size ≤ w10.heap.size := HB10.out.size
      clear h10 hco10 hk10 HT9 HCO9 HB9
      go_wp2_with fail
      refine (wakes9_any C _).mono ?_
      rintro e w11 ⟨rfl, hb11⟩
      have HB11 : Hid (Below W.heap.size W w11) := HB10.out.trans (hb11.mono hs10)
      clear hb11
      go_wp2
      go_ret
      exact ⟨rfl, HB11.out⟩

end Go.Proofs.Ytejgkgnocgplbaa
