/- DiskFlushes over the bundle. -/
import Derived.Test.YtjmeneddhalodaaPart05
import Derived.Test.YtjmeneddhalodaaPart06
namespace Go.Proofs.Ytjmeneddhalodaa
set_option linter.unusedVariables false
set_option linter.unusedSimpArgs false
open Go.RowKit Dg

/-- What is known behind some writes: the first bytes of what is read, and of what is kept. -/
structure FlI (s : Sk) (c : Nat) (now want : List Nat) : Prop where
  live : Live s 5 c
  nl : now.length = 5
  wl : want.length = 5
  hn : ∀ k x, k < 5 → now[k]? = some x → (s.now k)[0]? = some x
  hw : ∀ k x, k < 5 → want[k]? = some x → s.B[k * 128]? = some x
theorem FlI.first : FlI (newS 5) 0 [0, 0, 0, 0, 0] [0, 0, 0, 0, 0] := by
  refine ⟨Live.first (by decide) (by decide), rfl, rfl, fun k x hk hx => ?_, fun k x hk hx => ?_⟩
  · have e : x = 0 := by have := List.mem_of_getElem? hx; simpa using this
    rw [e]; exact newS_now 5 k hk
  · have e : x = 0 := by have := List.mem_of_getElem? hx; simpa using this
    rw [e]
    show (List.replicate (5 * 128) 0)[k * 128]? = _
    rw [List.getElem?_replicate, if_pos (by omega)]
theorem FlI.write {s : Sk} {c : Nat} {now want : List Nat} (h : FlI s c now want) {k y : Nat} (hk : k < 5) (hy : y < 256) : (0 : Int) = s.writeR (k : Int) (fullL [y]) ∧ FlI (s.writeS (k : Int) (fullL [y])) (c + 1) (now.set k y) want := by
  obtain ⟨h1, h2, h3, h4, h5⟩ := h.live.write hk (length_fullL [y]) (fullL_lt (fun x hx => by rw [List.mem_singleton.1 hx]; exact hy))
  refine ⟨h1, ⟨h2, by rw [List.length_set]; exact h.nl, h.wl, fun j x hj hx => ?_, fun j x hj hx => by rw [h3]; exact h.hw j x hj hx⟩⟩
  rw [h5]
  rw [List.getElem?_set] at hx
  by_cases e : k = j
  · rw [if_pos e] at hx ⊢
    rw [if_pos (by rw [h.nl]; exact hk)] at hx
    cases hx
    exact fullL_one y
  · rw [if_neg e] at hx ⊢
    exact h.hn j x hj hx
theorem FlI.flush {s : Sk} {c : Nat} {now want : List Nat} (h : FlI s c now want) : (0 : Int) = s.flushR ∧ FlI s.flushS (c + 1) now now ∧ 0 = s.flushS.W.length := by
  obtain ⟨h1, h2, h3, h4⟩ := h.live.flush
  refine ⟨h1, ⟨h2, h.nl, h.nl, fun j x hj hx => by rw [h4 j hj]; exact h.hn j x hj hx, fun j x hj hx => ?_⟩, by rw [h3]; rfl⟩
  have e := h.hn j x hj hx
  rw [← h4 j hj] at e
  unfold Sk.now at e
  rw [h3] at e
  exact sec_head e
theorem FlI.read {s : Sk} {c : Nat} {now want : List Nat} (h : FlI s c now want) {k : Nat} (hk : k < 5) : (s.now k, (0 : Int)) = s.readR (k : Int) ∧ FlI (s.readS (k : Int)) (c + 1) now want := by
  obtain ⟨h1, h2, h3, h4⟩ := h.live.read hk
  exact ⟨h1, ⟨h2, h.nl, h.wl, fun j x hj hx => by rw [now_same h3 h4]; exact h.hn j x hj hx, fun j x hj hx => by rw [h3]; exact h.hw j x hj hx⟩⟩
set_option maxRecDepth 100000 in
theorem Try.sizeA5 : (Try.prog.info? 46).map (·.size) = some 5 := by kernel_rfl
set_option maxRecDepth 100000 in
set_option maxHeartbeats 16000000 in
theorem dflushes_any {Di : DiP} (C : Dsk Di) (CR : DRead Di) (CF : DFlush Di) (W : World) (a : Option Addr) (len cap : Nat) (zs : List Int) (cut : Int) (hr : IsRow .i64 W a len cap zs) (hcut : I64 cut) :
    Calls Try.prog 5 #[.slice a len cap, .int .i64 cut] W fun e W' => e = .returned (.bool true) ∧ Below W.heap.size W W' := by
  obtain ⟨i0, hi, hz0, hz1, hz2⟩ := info_parts Try.info5
  obtain ⟨hc1, hc2⟩ := hcut
  obtain ⟨K, hK⟩ : ∃ K : Nat, cut % 13 = (K : Int) := ⟨(cut % 13).toNat, by omega⟩
  have HW1 : Hid (∀ w : World, Calls Try.prog 9 #[.int .i64 cut, .int .i64 13] w fun e w' => e = .returned (.int .i64 (K : Int)) ∧ w = w') := fun w => by rw [← hK]; exact within_any cut 13 w hc1 hc2 (by decide) (by decide)
  have hK13 : K < 13 := by omega
  obtain ⟨ls, hll, hlI, hat, hle, hmx, hnone, hblk⟩ := hr.ints
  have HLS := hid_of hat
  have HLL := hid_of hll
  have HLI : Hid (∀ x ∈ ls, I64 x) := hlI
  have HLB : Hid (∀ x, a = some x → 0 < len → x.block < W.heap.size) := hblk
  have hlen : len ≤ 9223372036854775807 := by unfold maxLen at hmx; omega
  clear hK hc1 hc2 hr hat hll hlI hle hmx hnone hblk
  go_enter Try.func5, Try.ntmps5
  go_wp2_with fail
  refine (one_new C W 5 (by decide) (by decide)).mono ?_
  rintro e w1 ⟨d, rfl, ho1, hb1⟩
  have HO1 := hid_of ho1
  have HK1 : Hid (Kept (fun k => W.heap.size ≤ k) W w1) := Below.kept0 hb1
  clear ho1 hb1
  go_wp2_with fail
  obtain ⟨w3, hw3⟩ : ∃ w3, w3 = (w1.alloc (.cells #[.int .u8 0, .int .u8 0, .int .u8 0, .int .u8 0, .int .u8 0] 46)).alloc (.cells #[.int .u8 0, .int .u8 0, .int .u8 0, .int .u8 0, .int .u8 0] 46) := ⟨_, rfl⟩
  obtain ⟨gw, hgw⟩ : ∃ gw, gw = w1.heap.size := ⟨_, rfl⟩
  obtain ⟨gn, hgn⟩ : ∃ gn, gn = w1.heap.size + 1 := ⟨_, rfl⟩
  have hk3 : Kept (fun _ => False) w1 w3 := by rw [hw3]; exact (Kept.alloc _ _ _).trans (Kept.alloc _ _ _)
  have hs3 : w3.heap.size = w1.heap.size + 2 := by rw [hw3]; simp
  have HAW3 : Hid (ArrIs 46 w3 gw [0, 0, 0, 0, 0]) := by
    show ArrIs _ _ _ _
    have e : ArrIs 46 (w1.alloc (.cells #[.int .u8 0, .int .u8 0, .int .u8 0, .int .u8 0, .int .u8 0] 46)) gw [0, 0, 0, 0, 0] := by rw [hgw]; exact heap_alloc_new w1 _
    rw [hw3]
    exact e.kept (Kept.alloc (fun _ => False) _ _) (fun h => h)
  have HAN3 : Hid (ArrIs 46 w3 gn [0, 0, 0, 0, 0]) := by
    show ArrIs _ _ _ _
    have e : ((w1.alloc (.cells #[.int .u8 0, .int .u8 0, .int .u8 0, .int .u8 0, .int .u8 0] 46))).heap.size = w1.heap.size + 1 := by simp
    rw [hw3, hgn, ← e]
    exact heap_alloc_new _ _
  have HO3 : Hid (One Di (fun k => k < W.heap.size ∨ k = gw ∨ k = gn) w3 d (newS 5)) := HO1.out.keep C (hk3.mono (fun _ _ h => h.elim)) (fun k e => by
    rcases e with e | e | e
    · exact .inl e
    · exact .inr ⟨by omega, by omega⟩
    · exact .inr ⟨by omega, by omega⟩)
  have HK3 : Hid (Kept (fun k => W.heap.size ≤ k) W w3) := HK1.out.trans (hk3.mono (fun _ _ h => h.elim))
  have hgwW : W.heap.size ≤ gw := by have := HK1.out.size; omega
  have hgnW : W.heap.size ≤ gn := by have := HK1.out.size; omega
  have hgne : ¬ gw = gn := by omega
  have HI3 : Hid (FlI (newS 5) 0 [0, 0, 0, 0, 0] [0, 0, 0, 0, 0]) := FlI.first
  rw [← hw3, ← hgn, ← hgw]
  clear hw3 hgw hgn hk3 hs3 HO1 HK1
  refine (HW1.out _).mono ?_
  rintro e w4 ⟨rfl, rfl⟩
  go_wp2_with fail
  go_loopw [9] (fun v ws => ∃ (i c : Nat) (s : Sk) (now want : List Nat), i ≤ len ∧ i ≤ 12 ∧ c ≤ 2 * i ∧ v = .int .i64 (i : Int) ∧ Hid (FlI s c now want) ∧ Hid (One Di (fun k => k < W.heap.size ∨ k = gw ∨ k = gn) ws d s) ∧ Hid (Kept (fun k => W.heap.size ≤ k) W ws) ∧ Hid (ArrIs 46 ws gw want) ∧ Hid (ArrIs 46 ws gn now)) (fun v _ => 12 - (intOf v).toNat)
  case atStart => exact ⟨0, 0, _, _, _, Nat.zero_le _, by decide, by decide, rfl, HI3, HO3, HK3, HAW3, HAN3⟩
  case round =>
    obtain ⟨i, c, s, now, want, hil, hi12, hc2, rfl, hI, hO, hK, hAW, hAN⟩ := hrel
    have hout : (i < len ∧ i < 12) ∨ ¬ i < len ∨ (i < len ∧ ¬ i < 12) := by omega
    rcases hout with ⟨hil', hi12'⟩ | hil' | ⟨hil', hi12'⟩
    · have hb12 : decide ((i : Int) < 12) = true := decide_eq_true (by omega)
      obtain ⟨x, hx⟩ : ∃ x, ls[i]? = some x := ⟨_, List.getElem?_eq_getElem (by rw [HLL.out]; exact hil')⟩
      obtain ⟨bl, ol, rfl, hcx⟩ := (HLS.out.kept hK.out (fun y hy e => by have := HLB.out y hy (by omega); omega)) i x hx
      have hblW : bl < W.heap.size := HLB.out ⟨bl, ol, none⟩ rfl (by omega)
      obtain ⟨hx1, hx2⟩ := HLI.out x (List.mem_of_getElem? hx)
      obtain ⟨k5, hk5e⟩ : ∃ k5 : Nat, x % 5 = (k5 : Int) := ⟨(x % 5).toNat, by omega⟩
      have hk5 : k5 < 5 := by omega
      have HWX : Hid (∀ w : World, Calls Try.prog 9 #[.int .i64 x, .int .i64 5] w fun e w' => e = .returned (.int .i64 (k5 : Int)) ∧ w = w') := fun w => by rw [← hk5e]; exact within_any x 5 w hx1 hx2 (by decide) (by decide)
      obtain ⟨y, hy⟩ : ∃ y, y = i + 1 := ⟨_, rfl⟩
      have hyi : (i : Int) + 1 = (y : Int) := by omega
      have hy256 : y < 256 := by omega
      clear hx hx1 hx2 hk5e hy
      rcases Nat.decEq i K with hiK | hiK
      · have hbK : ((i : Int) == (K : Int)) = false := beq_eq_false_iff_ne.2 (by omega)
        clear hiK
        go_wp2_with fail
        refine (HWX.out _).mono ?_
        rintro e w6 ⟨rfl, rfl⟩
        obtain ⟨hwr, hi6⟩ := hI.out.write hk5 hy256
        have HWR := hid_of hwr
        have HI6 := hid_of hi6
        have HLV := hid_of hI.out.live
        have HL3' : Hid (Bs (wr.alloc (.cells #[.int .u8 (y : Int)] 5)) (some ⟨wr.heap.size, 0, none⟩) 1 [y]) := lit_one wr y
        have HO3' : Hid (One Di (fun k => k < W.heap.size ∨ k = gw ∨ k = gn) (wr.alloc (.cells #[.int .u8 (y : Int)] 5)) d s) := hO.out.keep C (Kept.alloc _ _ _) (fun k e => .inl e)
        have HF3 := hid_of (one_full C HO3'.out (some ⟨wr.heap.size, 0, none⟩) 1 1 [y] rfl HL3'.out)
        have HK3' : Hid (Kept (fun k => W.heap.size ≤ k) W (wr.alloc (.cells #[.int .u8 (y : Int)] 5))) := hK.out.trans (Kept.alloc _ _ _)
        have HAW3 := hid_of (hAW.out.kept (Kept.alloc (fun _ => False) _ (.cells #[.int .u8 (y : Int)] 5)) (fun h => h))
        have HAN3 := hid_of (hAN.out.kept (Kept.alloc (fun _ => False) _ (.cells #[.int .u8 (y : Int)] 5)) (fun h => h))
        clear hwr hi6
        go_wp2_with fail
        refine HF3.out.mono ?_
        rintro e w7 ⟨g7, rfl, hb7, -, ho7, hbl7, hg7, hg7'⟩
        have HK7 : Hid (Kept (fun k => W.heap.size ≤ k) W w7) := HK3'.out.trans ((Below.kept0 hbl7).mono (fun k _ e => Nat.le_trans HK3'.out.size e))
        have HAW7 := hid_of (HAW3.out.kept (F := fun _ => False) (Kept.of_below hbl7) (fun h => h))
        have HAN7 := hid_of (HAN3.out.kept (F := fun _ => False) (Kept.of_below hbl7) (fun h => h))
        have HCW := hid_of (one_write C ho7 (k5 : Int) ⟨by omega, by omega⟩ g7 128 128 (fullL [y]) (length_fullL [y]) hb7 (fullL_lt (fun x hx => by rw [List.mem_singleton.1 hx]; exact hy256)) (by decide) (.inr rfl) (by have := HLV.out.wr; omega) (by have := HLV.out.wl; omega) 0 HWR.out _ rfl)
        clear hb7 ho7 hbl7 HF3 HL3' HO3' HAW3 HAN3 HK3' hg7 hg7'
        go_wp2_with fail
        refine HCW.out.mono ?_
        rintro e w8 ⟨rfl, ho8, hk8⟩
        have HO8 : Hid (One Di (fun k => k < W.heap.size ∨ k = gw ∨ k = gn) w8 d (s.writeS (k5 : Int) (fullL [y]))) := ho8.less (fun k e => .inl e)
        have HK8 : Hid (Kept (fun k => W.heap.size ≤ k) W w8) := HK7.out.trans (hk8.mono (fun k _ e => Nat.le_of_not_lt (fun h => e (.inl (.inl h)))))
        have HAW8 := hid_of (HAW7.out.kept hk8 (fun f => f (.inl (.inr (.inl rfl)))))
        have HAN8 := hid_of (HAN7.out.kept hk8 (fun f => f (.inl (.inr (.inr rfl)))))
        clear ho8 hk8 HCW HAW7 HAN7 HK7
        obtain ⟨u, hu⟩ : ∃ u, now[k5]? = some u := ⟨_, List.getElem?_eq_getElem (by rw [hI.out.nl]; exact hk5)⟩
        obtain ⟨cn1, cn2⟩ := HAN8.out.cell hu
        obtain ⟨w9, hw9⟩ : ∃ w9, w9 = w8.setCell ⟨gn, k5, none⟩ (.int .u8 (y : Int)) := ⟨_, rfl⟩
        have hk9 : Kept (fun k => k = gn) w8 w9 := by rw [hw9]; exact Kept.setCell _ _ _ rfl
        have HAN9 : Hid (ArrIs 46 w9 gn (now.set k5 y)) := by show ArrIs _ _ _ _; rw [hw9]; exact HAN8.out.set k5 y
        have HAW9 := hid_of (HAW8.out.kept hk9 hgne)
        have HO9 : Hid (One Di (fun k => k < W.heap.size ∨ k = gw ∨ k = gn) w9 d (s.writeS (k5 : Int) (fullL [y]))) := HO8.out.keep C (hk9.mono (fun k _ e => .inl (.inr (.inr e)))) (fun k e => .inl e)
        have HK9 : Hid (Kept (fun k => W.heap.size ≤ k) W w9) := HK8.out.trans (hk9.mono (fun k _ e => by omega))
        clear hu hk9
        go_wp2_with fail
        rw [← hw9]
        refine ⟨?_, by (simp [intOf]) <;> omega⟩
        first
          | exact ⟨i + 1, c + 1, _, _, _, by omega, by omega, by omega, by go_num, HI6, HO9, HK9, HAW9, HAN9⟩
          | ((repeat apply Exists.intro); refine ⟨?_, rfl⟩; exact ⟨i + 1, c + 1, _, _, _, by omega, by omega, by omega, by go_num, HI6, HO9, HK9, HAW9, HAN9⟩)
      · have hbK : ((i : Int) == (K : Int)) = true := by simp [hiK]
        clear hiK
        obtain ⟨hf1, hf2, hf3⟩ := hI.out.flush
        have HFR := hid_of hf1
        have HI5 := hid_of hf2
        have HWT := hid_of hf3
        have HLV0 := hid_of hI.out.live
        have HNL := hid_of hI.out.nl
        have HWL := hid_of hI.out.wl
        obtain ⟨s5, hs5⟩ : ∃ s5, s5 = s.flushS := ⟨_, rfl⟩
        rw [← hs5] at HI5 HWT
        have HS5 := hid_of hs5
        clear hf1 hf2 hf3 hs5
        go_wp2_with fail
        refine (one_flush C CF hO.out (by have := HLV0.out.fl; omega) (by have := HLV0.out.wl; omega) 0 HFR.out s5 HS5.out).mono ?_
        rintro e w2 ⟨rfl, ho2, hk2⟩
        have HO2 := hid_of ho2
        have HK2 : Hid (Kept (fun k => W.heap.size ≤ k) W w2) := hK.out.trans (hk2.mono (fun k _ e => Nat.le_of_not_lt (fun h => e (.inl h))))
        have HAW2 := hid_of (hAW.out.kept hk2 (fun f => f (.inr (.inl rfl))))
        have HAN2 := hid_of (hAN.out.kept hk2 (fun f => f (.inr (.inr rfl))))
        have hcx2 : w2.cell? ⟨bl, ol + i, none⟩ = some (.int .i64 x) := by rw [hk2.cell (World.block_lt_of_cell? wr _ hcx) (fun f => f (.inl hblW))]; exact hcx
        clear ho2 hk2 hcx
        go_wp2_with fail
        refine (one_wait C HO2.out 0 HWT.out).mono ?_
        rintro e w3 ⟨rfl, n3, rfl⟩
        have HO3' := hid_of (HO2.out.draws C n3)
        have HK3' : Hid (Kept (fun k => W.heap.size ≤ k) W (w2.drewN n3)) := ⟨HK2.out.os, HK2.out.tape, HK2.out.output, HK2.out.size, HK2.out.block⟩
        have HAW3' : Hid (ArrIs 46 (w2.drewN n3) gw want) := HAW2.out
        have HAN3' : Hid (ArrIs 46 (w2.drewN n3) gn now) := HAN2.out
        have hcx3 : (w2.drewN n3).cell? ⟨bl, ol + i, none⟩ = some (.int .i64 x) := hcx2
        clear HO2 HK2 HAW2 HAN2 hcx2
        generalize w2.drewN n3 = w2 at *
        obtain ⟨Cn, hCn⟩ : ∃ Cn, Cn = (u8s now).toArray := ⟨_, rfl⟩
        have HCN := hid_of hCn
        clear hCn
        go_upto_region 12 with fail
        go_wp2_with (refine wpList_load_arr rfl 46 (.tmp 8) rfl gn rfl now HAN3'.out _ Try.underlying46 rfl 5 HNL.out Try.sizeA5 Cn HCN.out ?_; refine wpList_store_arr rfl 46 (.tmp 7) (.tmp 48) rfl gw Cn rfl rfl now want HCN.out HAW3'.out 5 HNL.out HWL.out Try.sizeA5 ?_)
        intro w5 hA5 hK5'
        have hcx5 : w5.cell? ⟨bl, ol + i, none⟩ = some (.int .i64 x) := by rw [hK5'.out.cell (World.block_lt_of_cell? w2 _ hcx3) (fun e => by have e' : bl = gw := e; omega)]; exact hcx3
        have HK5 : Hid (Kept (fun k => W.heap.size ≤ k) W w5) := HK3'.out.trans (hK5'.out.mono (fun k _ e => by omega))
        have HO5 : Hid (One Di (fun k => k < W.heap.size ∨ k = gw ∨ k = gn) w5 d s5) := HO3'.out.keep C (hK5'.out.mono (fun k _ e => .inl (.inr (.inl e)))) (fun k e => .inl e)
        have HAN5 := hid_of (HAN3'.out.kept hK5'.out (fun e => hgne e.symm))
        clear hK5' HAW3' HAN3' HK3' HO3' hcx3
        go_wp2_with fail
        refine (HWX.out _).mono ?_
        rintro e w6 ⟨rfl, rfl⟩
        obtain ⟨hwr, hi6⟩ := HI5.out.write hk5 hy256
        have HWR := hid_of hwr
        have HI6 := hid_of hi6
        have HLV := hid_of HI5.out.live
        have HL3' : Hid (Bs (w5.alloc (.cells #[.int .u8 (y : Int)] 5)) (some ⟨w5.heap.size, 0, none⟩) 1 [y]) := lit_one w5 y
        have HO3' : Hid (One Di (fun k => k < W.heap.size ∨ k = gw ∨ k = gn) (w5.alloc (.cells #[.int .u8 (y : Int)] 5)) d s5) := HO5.out.keep C (Kept.alloc _ _ _) (fun k e => .inl e)
        have HF3 := hid_of (one_full C HO3'.out (some ⟨w5.heap.size, 0, none⟩) 1 1 [y] rfl HL3'.out)
        have HK3' : Hid (Kept (fun k => W.heap.size ≤ k) W (w5.alloc (.cells #[.int .u8 (y : Int)] 5))) := HK5.out.trans (Kept.alloc _ _ _)
        have HAW3 := hid_of (hA5.out.kept (Kept.alloc (fun _ => False) _ (.cells #[.int .u8 (y : Int)] 5)) (fun h => h))
        have HAN3 := hid_of (HAN5.out.kept (Kept.alloc (fun _ => False) _ (.cells #[.int .u8 (y : Int)] 5)) (fun h => h))
        clear hwr hi6
        go_wp2_with fail
        refine HF3.out.mono ?_
        rintro e w7 ⟨g7, rfl, hb7, -, ho7, hbl7, hg7, hg7'⟩
        have HK7 : Hid (Kept (fun k => W.heap.size ≤ k) W w7) := HK3'.out.trans ((Below.kept0 hbl7).mono (fun k _ e => Nat.le_trans HK3'.out.size e))
        have HAW7 := hid_of (HAW3.out.kept (F := fun _ => False) (Kept.of_below hbl7) (fun h => h))
        have HAN7 := hid_of (HAN3.out.kept (F := fun _ => False) (Kept.of_below hbl7) (fun h => h))
        have HCW := hid_of (one_write C ho7 (k5 : Int) ⟨by omega, by omega⟩ g7 128 128 (fullL [y]) (length_fullL [y]) hb7 (fullL_lt (fun x hx => by rw [List.mem_singleton.1 hx]; exact hy256)) (by decide) (.inr rfl) (by have := HLV.out.wr; omega) (by have := HLV.out.wl; omega) 0 HWR.out _ rfl)
        clear hb7 ho7 hbl7 HF3 HL3' HO3' HAW3 HAN3 HK3' hg7 hg7'
        go_wp2_with fail
        refine HCW.out.mono ?_
        rintro e w8 ⟨rfl, ho8, hk8⟩
        have HO8 : Hid (One Di (fun k => k < W.heap.size ∨ k = gw ∨ k = gn) w8 d (s5.writeS (k5 : Int) (fullL [y]))) := ho8.less (fun k e => .inl e)
        have HK8 : Hid (Kept (fun k => W.heap.size ≤ k) W w8) := HK7.out.trans (hk8.mono (fun k _ e => Nat.le_of_not_lt (fun h => e (.inl (.inl h)))))
        have HAW8 := hid_of (HAW7.out.kept hk8 (fun f => f (.inl (.inr (.inl rfl)))))
        have HAN8 := hid_of (HAN7.out.kept hk8 (fun f => f (.inl (.inr (.inr rfl)))))
        clear ho8 hk8 HCW HAW7 HAN7 HK7
        obtain ⟨u, hu⟩ : ∃ u, now[k5]? = some u := ⟨_, List.getElem?_eq_getElem (by rw [HI5.out.nl]; exact hk5)⟩
        obtain ⟨cn1, cn2⟩ := HAN8.out.cell hu
        obtain ⟨w9, hw9⟩ : ∃ w9, w9 = w8.setCell ⟨gn, k5, none⟩ (.int .u8 (y : Int)) := ⟨_, rfl⟩
        have hk9 : Kept (fun k => k = gn) w8 w9 := by rw [hw9]; exact Kept.setCell _ _ _ rfl
        have HAN9 : Hid (ArrIs 46 w9 gn (now.set k5 y)) := by show ArrIs _ _ _ _; rw [hw9]; exact HAN8.out.set k5 y
        have HAW9 := hid_of (HAW8.out.kept hk9 hgne)
        have HO9 : Hid (One Di (fun k => k < W.heap.size ∨ k = gw ∨ k = gn) w9 d (s5.writeS (k5 : Int) (fullL [y]))) := HO8.out.keep C (hk9.mono (fun k _ e => .inl (.inr (.inr e)))) (fun k e => .inl e)
        have HK9 : Hid (Kept (fun k => W.heap.size ≤ k) W w9) := HK8.out.trans (hk9.mono (fun k _ e => by omega))
        clear hu hk9
        go_wp2_with fail
        rw [← hw9]
        refine ⟨?_, by (simp [intOf]) <;> omega⟩
        first
          | exact ⟨i + 1, (c + 1) + 1, _, _, _, by omega, by omega, by omega, by go_num, HI6, HO9, HK9, HAW9, HAN9⟩
          | ((repeat apply Exists.intro); refine ⟨?_, rfl⟩; exact ⟨i + 1, (c + 1) + 1, _, _, _, by omega, by omega, by omega, by go_num, HI6, HO9, HK9, HAW9, HAN9⟩)
    · have hbl : decide (i < len) = false := decide_eq_false hil'
      have HBL := hid_of hI.out.live.bl
      have HLV := hid_of hI.out.live
      have HNL := hid_of hI.out.nl
      have HWLn := hid_of hI.out.wl
      go_wp2_with fail
      refine (one_image C hO.out).mono ?_
      rintro e w2 ⟨v2, rfl, ho2, hoi2, hk2⟩
      obtain ⟨ab, cb, rfl, hbs2⟩ := OwnBytes.bs ho2
      obtain ⟨gb, rfl⟩ : ∃ gb, ab = some ⟨gb, 0, none⟩ := by
        rcases ho2.2 with ⟨_, e⟩ | ⟨g', cap', cur, e, -⟩
        · have := HBL.out; omega
        · simp only [Value.slice.injEq] at e
          exact ⟨g', e.1⟩
      have hgb : wr.heap.size ≤ gb ∧ gb < w2.heap.size := World.ownsRow.lt ho2 gb rfl
      have HIM : Hid (∀ (j x : Nat), s.B[j]? = some x → w2.cell? ⟨gb, j, none⟩ = some (.int .u8 (x : Int))) := fun j x hx => by
        obtain ⟨b', o', e, hc⟩ := sl_cell hbs2.at_ hx
        cases e
        rw [Nat.zero_add] at hc
        exact hc
      have HOI : Hid (One Di (fun k => k < W.heap.size ∨ k = gw ∨ k = gn ∨ k = gb) w2 d s) := hoi2.less (fun k e => by
        rcases e with e | e | e | e
        · exact .inl (.inl e)
        · exact .inl (.inr (.inl e))
        · exact .inl (.inr (.inr e))
        · exact .inr (by rw [e]; rfl))
      have HKI : Hid (Kept (fun k => W.heap.size ≤ k) W w2) := hK.out.trans (hk2.mono (fun _ _ h => h.elim))
      have HAWI := hid_of (hAW.out.kept hk2 (fun h => h))
      have HANI := hid_of (hAN.out.kept hk2 (fun h => h))
      have hgbw : gb ≠ gw ∧ gb ≠ gn ∧ W.heap.size ≤ gb := by have := hAW.out.lt; have := hAN.out.lt; have := hK.out.size; omega
      have HGB : Hid (gb < w2.heap.size) := hgb.2
      have HI0 := hI
      rw [HBL.out]
      clear ho2 hoi2 hk2 hbs2 hgb hO hK hAW hAN HBL HLV
      go_wp2_with fail
      go_loopw [73] (fun v ws => ∃ (k c' : Nat) (t : Sk), k ≤ 5 ∧ c' ≤ 24 + k ∧ v = .int .i64 (k : Int) ∧ Hid (FlI t c' now want) ∧ Hid (t.B = s.B) ∧ Hid (One Di (fun j => j < W.heap.size ∨ j = gw ∨ j = gn ∨ j = gb) ws d t) ∧ Hid (Kept (fun j => W.heap.size ≤ j) W ws) ∧ Hid (ArrIs 46 ws gw want) ∧ Hid (ArrIs 46 ws gn now) ∧ Hid (∀ (j x : Nat), s.B[j]? = some x → ws.cell? ⟨gb, j, none⟩ = some (.int .u8 (x : Int))) ∧ gb < ws.heap.size) (fun v _ => 5 - (intOf v).toNat)
      case atStart => exact ⟨0, c, s, by decide, by omega, rfl, HI0, rfl, HOI, HKI, HAWI, HANI, HIM, HGB.out⟩
      case round =>
        obtain ⟨k, c', t, hk5, hc', rfl, hIt, hB, hOt, hKt, hAWt, hANt, hIMt, hgbt⟩ := hrel
        by_cases hk : k < 5
        · obtain ⟨hrd, hIn⟩ := hIt.out.read hk
          obtain ⟨R, hR⟩ : ∃ R, R = t.now k := ⟨_, rfl⟩
          rw [← hR] at hrd
          have HRD := hid_of hrd
          have HIN := hid_of hIn
          have HLV := hid_of hIt.out.live
          obtain ⟨xn, hxn⟩ : ∃ x, now[k]? = some x := ⟨_, List.getElem?_eq_getElem (by rw [HNL.out]; exact hk)⟩
          obtain ⟨xw, hxw⟩ : ∃ x, want[k]? = some x := ⟨_, List.getElem?_eq_getElem (by rw [HWLn.out]; exact hk)⟩
          have hR0 : R[0]? = some xn := by rw [hR]; exact hIt.out.hn k xn hk hxn
          have hRL : R.length = 128 := by rw [hR]; exact (t.now_fine HLV.out.fine (by rw [HLV.out.bl]; omega)).1
          have hB0 : s.B[k * 128]? = some xw := by rw [← hB.out]; exact hIt.out.hw k xw hk hxw
          obtain ⟨q, hq⟩ : ∃ q, q = k * 128 := ⟨_, rfl⟩
          have hkq : (k : Int) * 128 = (q : Int) := by omega
          have hq6 : q < 640 := by omega
          have HR0 := hid_of hR0
          have HRL := hid_of hRL
          have hcb := hIMt.out _ _ hB0
          rw [← hq] at hcb
          have hcn := (hANt.out.cell hxn).1
          have hcw := (hAWt.out.cell hxw).1
          have HBR : Hid ((t.readS (k : Int)).B = s.B) := by show _ = _; rw [(HLV.out.read hk).2.2.1]; exact hB.out
          clear hrd hIn hR hR0 hRL hB0 hq hxn hxw
          go_wp2_with fail
          refine (one_read C CR hOt.out (k : Int) ⟨by omega, by omega⟩ (by have := HLV.out.rd; omega) (by have := HLV.out.wl; omega) R 0 HRD.out _ rfl).mono ?_
          rintro e w3 ⟨v3, rfl, hv3, ho3, hk3⟩
          obtain ⟨g3, Y3, rfl, hg3, hr3, ht3, hly, hmy⟩ : ∃ (g : Nat) (Y : List Nat), v3 = .slice (some ⟨g, 0, none⟩) R.length Y.length ∧ wr.heap.size ≤ g ∧ RowIs w3 g (u8s Y) ∧ Y.take R.length = R ∧ R.length ≤ Y.length ∧ Y.length ≤ maxLen := by
            rcases hv3 with ⟨_, e⟩ | h
            · exfalso
              have := HRL.out
              rw [e] at this
              simp at this
            · exact h
          obtain ⟨c3, hc3⟩ : ∃ c3, c3 = Y3.length := ⟨_, rfl⟩
          have hc30 : w3.cell? ⟨g3, 0, none⟩ = some (.int .u8 (xn : Int)) := by
            obtain ⟨b', o', e, hc⟩ := sl_cell (SlAt.of_owns hv3.own) HR0.out
            cases e
            rw [Nat.zero_add] at hc
            exact hc
          have hcb3 : w3.cell? ⟨gb, q, none⟩ = some (.int .u8 (xw : Int)) := by rw [hk3.cell hgbt (fun f => f (.inr (.inr (.inr rfl))))]; exact hcb
          have hcn3 : w3.cell? ⟨gn, k, none⟩ = some (.int .u8 (xn : Int)) := by rw [hk3.cell hANt.out.lt (fun f => f (.inr (.inr (.inl rfl))))]; exact hcn
          have hcw3 : w3.cell? ⟨gw, k, none⟩ = some (.int .u8 (xw : Int)) := by rw [hk3.cell hAWt.out.lt (fun f => f (.inr (.inl rfl)))]; exact hcw
          have HO3' : Hid (One Di (fun j => j < W.heap.size ∨ j = gw ∨ j = gn ∨ j = gb) w3 d (t.readS (k : Int))) := ho3.less (fun j e => .inl e)
          have HK3' : Hid (Kept (fun j => W.heap.size ≤ j) W w3) := hKt.out.trans (hk3.mono (fun j _ e => Nat.le_of_not_lt (fun h => e (.inl h))))
          have HAW3' := hid_of (hAWt.out.kept hk3 (fun f => f (.inr (.inl rfl))))
          have HAN3' := hid_of (hANt.out.kept hk3 (fun f => f (.inr (.inr (.inl rfl)))))
          have HIM3 : Hid (∀ (j x : Nat), s.B[j]? = some x → w3.cell? ⟨gb, j, none⟩ = some (.int .u8 (x : Int))) := fun j x hx => by rw [hk3.cell hgbt (fun f => f (.inr (.inr (.inr rfl))))]; exact hIMt.out j x hx
          have hgb3 : gb < w3.heap.size := Nat.lt_of_lt_of_le hgbt hk3.size
          rw [HRL.out, ← hc3]
          clear hv3 ho3 hk3 hr3 ht3 hly hmy hc3 hcb hcn hcw hOt hKt hAWt hANt hIMt
          go_wp2_with fail
          go_quiet (fail)
          go_wp2_with fail
          refine ⟨?_, by (simp [intOf]) <;> omega⟩
          first
            | exact ⟨k + 1, c' + 1, _, by omega, by omega, by go_num, HIN, HBR, HO3'.out.draws C nq, ⟨HK3'.out.os, HK3'.out.tape, HK3'.out.output, HK3'.out.size, HK3'.out.block⟩, HAW3'.out, HAN3'.out, HIM3.out, hgb3⟩
            | ((repeat apply Exists.intro); refine ⟨?_, rfl⟩; exact ⟨k + 1, c' + 1, _, by omega, by omega, by go_num, HIN, HBR, HO3'.out.draws C nq, ⟨HK3'.out.os, HK3'.out.tape, HK3'.out.output, HK3'.out.size, HK3'.out.block⟩, HAW3'.out, HAN3'.out, HIM3.out, hgb3⟩)
        · obtain rfl : k = 5 := by omega
          go_wp2_with fail
          refine (wakes10_any C wr).mono ?_
          rintro e wC ⟨rfl, hbC⟩
          have HBC : Hid (Below W.heap.size W wC) := (hKt.out.below_of (Below.refl _ _) (fun k e => e) (Nat.le_refl _)).trans (hbC.mono hKt.out.size)
          clear hbC
          go_wp2_with fail
          go_ret
          exact ⟨rfl, HBC.out⟩
    · have hbl : decide (i < len) = true := decide_eq_true hil'
      have hb12 : decide ((i : Int) < 12) = false := decide_eq_false (by omega)
      have HBL := hid_of hI.out.live.bl
      have HLV := hid_of hI.out.live
      have HNL := hid_of hI.out.nl
      have HWLn := hid_of hI.out.wl
      go_wp2_with fail
      refine (one_image C hO.out).mono ?_
      rintro e w2 ⟨v2, rfl, ho2, hoi2, hk2⟩
      obtain ⟨ab, cb, rfl, hbs2⟩ := OwnBytes.bs ho2
      obtain ⟨gb, rfl⟩ : ∃ gb, ab = some ⟨gb, 0, none⟩ := by
        rcases ho2.2 with ⟨_, e⟩ | ⟨g', cap', cur, e, -⟩
        · have := HBL.out; omega
        · simp only [Value.slice.injEq] at e
          exact ⟨g', e.1⟩
      have hgb : wr.heap.size ≤ gb ∧ gb < w2.heap.size := World.ownsRow.lt ho2 gb rfl
      have HIM : Hid (∀ (j x : Nat), s.B[j]? = some x → w2.cell? ⟨gb, j, none⟩ = some (.int .u8 (x : Int))) := fun j x hx => by
        obtain ⟨b', o', e, hc⟩ := sl_cell hbs2.at_ hx
        cases e
        rw [Nat.zero_add] at hc
        exact hc
      have HOI : Hid (One Di (fun k => k < W.heap.size ∨ k = gw ∨ k = gn ∨ k = gb) w2 d s) := hoi2.less (fun k e => by
        rcases e with e | e | e | e
        · exact .inl (.inl e)
        · exact .inl (.inr (.inl e))
        · exact .inl (.inr (.inr e))
        · exact .inr (by rw [e]; rfl))
      have HKI : Hid (Kept (fun k => W.heap.size ≤ k) W w2) := hK.out.trans (hk2.mono (fun _ _ h => h.elim))
      have HAWI := hid_of (hAW.out.kept hk2 (fun h => h))
      have HANI := hid_of (hAN.out.kept hk2 (fun h => h))
      have hgbw : gb ≠ gw ∧ gb ≠ gn ∧ W.heap.size ≤ gb := by have := hAW.out.lt; have := hAN.out.lt; have := hK.out.size; omega
      have HGB : Hid (gb < w2.heap.size) := hgb.2
      have HI0 := hI
      rw [HBL.out]
      clear ho2 hoi2 hk2 hbs2 hgb hO hK hAW hAN HBL HLV
      go_wp2_with fail
      go_loopw [73] (fun v ws => ∃ (k c' : Nat) (t : Sk), k ≤ 5 ∧ c' ≤ 24 + k ∧ v = .int .i64 (k : Int) ∧ Hid (FlI t c' now want) ∧ Hid (t.B = s.B) ∧ Hid (One Di (fun j => j < W.heap.size ∨ j = gw ∨ j = gn ∨ j = gb) ws d t) ∧ Hid (Kept (fun j => W.heap.size ≤ j) W ws) ∧ Hid (ArrIs 46 ws gw want) ∧ Hid (ArrIs 46 ws gn now) ∧ Hid (∀ (j x : Nat), s.B[j]? = some x → ws.cell? ⟨gb, j, none⟩ = some (.int .u8 (x : Int))) ∧ gb < ws.heap.size) (fun v _ => 5 - (intOf v).toNat)
      case atStart => exact ⟨0, c, s, by decide, by omega, rfl, HI0, rfl, HOI, HKI, HAWI, HANI, HIM, HGB.out⟩
      case round =>
        obtain ⟨k, c', t, hk5, hc', rfl, hIt, hB, hOt, hKt, hAWt, hANt, hIMt, hgbt⟩ := hrel
        by_cases hk : k < 5
        · obtain ⟨hrd, hIn⟩ := hIt.out.read hk
          obtain ⟨R, hR⟩ : ∃ R, R = t.now k := ⟨_, rfl⟩
          rw [← hR] at hrd
          have HRD := hid_of hrd
          have HIN := hid_of hIn
          have HLV := hid_of hIt.out.live
          obtain ⟨xn, hxn⟩ : ∃ x, now[k]? = some x := ⟨_, List.getElem?_eq_getElem (by rw [HNL.out]; exact hk)⟩
          obtain ⟨xw, hxw⟩ : ∃ x, want[k]? = some x := ⟨_, List.getElem?_eq_getElem (by rw [HWLn.out]; exact hk)⟩
          have hR0 : R[0]? = some xn := by rw [hR]; exact hIt.out.hn k xn hk hxn
          have hRL : R.length = 128 := by rw [hR]; exact (t.now_fine HLV.out.fine (by rw [HLV.out.bl]; omega)).1
          have hB0 : s.B[k * 128]? = some xw := by rw [← hB.out]; exact hIt.out.hw k xw hk hxw
          obtain ⟨q, hq⟩ : ∃ q, q = k * 128 := ⟨_, rfl⟩
          have hkq : (k : Int) * 128 = (q : Int) := by omega
          have hq6 : q < 640 := by omega
          have HR0 := hid_of hR0
          have HRL := hid_of hRL
          have hcb := hIMt.out _ _ hB0
          rw [← hq] at hcb
          have hcn := (hANt.out.cell hxn).1
          have hcw := (hAWt.out.cell hxw).1
          have HBR : Hid ((t.readS (k : Int)).B = s.B) := by show _ = _; rw [(HLV.out.read hk).2.2.1]; exact hB.out
          clear hrd hIn hR hR0 hRL hB0 hq hxn hxw
          go_wp2_with fail
          refine (one_read C CR hOt.out (k : Int) ⟨by omega, by omega⟩ (by have := HLV.out.rd; omega) (by have := HLV.out.wl; omega) R 0 HRD.out _ rfl).mono ?_
          rintro e w3 ⟨v3, rfl, hv3, ho3, hk3⟩
          obtain ⟨g3, Y3, rfl, hg3, hr3, ht3, hly, hmy⟩ : ∃ (g : Nat) (Y : List Nat), v3 = .slice (some ⟨g, 0, none⟩) R.length Y.length ∧ wr.heap.size ≤ g ∧ RowIs w3 g (u8s Y) ∧ Y.take R.length = R ∧ R.length ≤ Y.length ∧ Y.length ≤ maxLen := by
            rcases hv3 with ⟨_, e⟩ | h
            · exfalso
              have := HRL.out
              rw [e] at this
              simp at this
            · exact h
          obtain ⟨c3, hc3⟩ : ∃ c3, c3 = Y3.length := ⟨_, rfl⟩
          have hc30 : w3.cell? ⟨g3, 0, none⟩ = some (.int .u8 (xn : Int)) := by
            obtain ⟨b', o', e, hc⟩ := sl_cell (SlAt.of_owns hv3.own) HR0.out
            cases e
            rw [Nat.zero_add] at hc
            exact hc
          have hcb3 : w3.cell? ⟨gb, q, none⟩ = some (.int .u8 (xw : Int)) := by rw [hk3.cell hgbt (fun f => f (.inr (.inr (.inr rfl))))]; exact hcb
          have hcn3 : w3.cell? ⟨gn, k, none⟩ = some (.int .u8 (xn : Int)) := by rw [hk3.cell hANt.out.lt (fun f => f (.inr (.inr (.inl rfl))))]; exact hcn
          have hcw3 : w3.cell? ⟨gw, k, none⟩ = some (.int .u8 (xw : Int)) := by rw [hk3.cell hAWt.out.lt (fun f => f (.inr (.inl rfl)))]; exact hcw
          have HO3' : Hid (One Di (fun j => j < W.heap.size ∨ j = gw ∨ j = gn ∨ j = gb) w3 d (t.readS (k : Int))) := ho3.less (fun j e => .inl e)
          have HK3' : Hid (Kept (fun j => W.heap.size ≤ j) W w3) := hKt.out.trans (hk3.mono (fun j _ e => Nat.le_of_not_lt (fun h => e (.inl h))))
          have HAW3' := hid_of (hAWt.out.kept hk3 (fun f => f (.inr (.inl rfl))))
          have HAN3' := hid_of (hANt.out.kept hk3 (fun f => f (.inr (.inr (.inl rfl)))))
          have HIM3 : Hid (∀ (j x : Nat), s.B[j]? = some x → w3.cell? ⟨gb, j, none⟩ = some (.int .u8 (x : Int))) := fun j x hx => by rw [hk3.cell hgbt (fun f => f (.inr (.inr (.inr rfl))))]; exact hIMt.out j x hx
          have hgb3 : gb < w3.heap.size := Nat.lt_of_lt_of_le hgbt hk3.size
          rw [HRL.out, ← hc3]
          clear hv3 ho3 hk3 hr3 ht3 hly hmy hc3 hcb hcn hcw hOt hKt hAWt hANt hIMt
          go_wp2_with fail
          go_quiet (fail)
          go_wp2_with fail
          refine ⟨?_, by (simp [intOf]) <;> omega⟩
          first
            | exact ⟨k + 1, c' + 1, _, by omega, by omega, by go_num, HIN, HBR, HO3'.out.draws C nq, ⟨HK3'.out.os, HK3'.out.tape, HK3'.out.output, HK3'.out.size, HK3'.out.block⟩, HAW3'.out, HAN3'.out, HIM3.out, hgb3⟩
            | ((repeat apply Exists.intro); refine ⟨?_, rfl⟩; exact ⟨k + 1, c' + 1, _, by omega, by omega, by go_num, HIN, HBR, HO3'.out.draws C nq, ⟨HK3'.out.os, HK3'.out.tape, HK3'.out.output, HK3'.out.size, HK3'.out.block⟩, HAW3'.out, HAN3'.out, HIM3.out, hgb3⟩)
        · obtain rfl : k = 5 := by omega
          go_wp2_with fail
          refine (wakes10_any C wr).mono ?_
          rintro e wC ⟨rfl, hbC⟩
          have HBC : Hid (Below W.heap.size W wC) := (hKt.out.below_of (Below.refl _ _) (fun k e => e) (Nat.le_refl _)).trans (hbC.mono hKt.out.size)
          clear hbC
          go_wp2_with fail
          go_ret
          exact ⟨rfl, HBC.out⟩

end Go.Proofs.Ytjmeneddhalodaa
