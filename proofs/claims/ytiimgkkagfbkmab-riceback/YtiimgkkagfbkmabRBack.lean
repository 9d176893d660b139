/- RiceBack: the walk. -/
import Derived.Test.YtiimgkkagfbkmabRice9
namespace Go.Proofs.Ytiimgkkagfbkmab
set_option linter.unusedVariables false
set_option linter.unusedSimpArgs false
open Go.RowKit Dg

theorem take_map_next (l : List Int) (f : Int → Int) (n j : Nat) (x : Int) (hx : l[j]? = some x) (hj : j < n) : ((l.take n).map f).take (j + 1) = ((l.take n).map f).take j ++ [f x] := by
  rw [List.take_add_one]
  congr 1
  simp [List.getElem?_take, hj, hx]

/-- What the second loop keeps. -/
structure GotAt (W wr : World) (r : Nat) (rvr : Value) (l : List Nat) (k : Nat) (a : Option Addr) (zs : List Int) : Prop where
  rd : RdAt wr r rvr l k
  own : ∀ i, rvr.ownBlock = some i → i < wr.heap.size
  ints : IntsAt wr a zs
  ap : ∀ x, a = some x → x.block ≠ r
  bel : Below W.heap.size W wr

set_option maxRecDepth 100000 in
set_option maxHeartbeats 8000000 in
theorem rback_any (W : World) (a : Option Addr) (len cap : Nat) (z : List Int) (k0 : Int) (hrow : IsRow .i64 W a len cap z) (hk0 : I64 k0) :
    Calls Try.prog 3 #[.slice a len cap, .int .i64 k0] W fun e W' => e = .returned (.bool true) ∧ Below W.heap.size W W' := by
  obtain ⟨l, hl, hI, hat, hle, hm, hnone, hblk⟩ := hrow.ints
  obtain ⟨i0, hi, hz0, hz1, hz2⟩ := info_parts Try.info3
  obtain ⟨hk01, hk02⟩ := hk0
  unfold maxLen at hm
  subst hl
  obtain ⟨zs, hzs⟩ : ∃ zs, zs = (l.take 30).map (fun x => x % 4294967296) := ⟨_, rfl⟩
  have hzl : zs.length ≤ 30 ∧ zs.length ≤ l.length ∧ (l.length ≤ zs.length ∨ 30 ≤ zs.length) := by rw [hzs]; simp; omega
  obtain ⟨hz30, hzle, hzor⟩ := hzl
  have HZ : Hid (zs = (l.take 30).map (fun x => x % 4294967296)) := hzs
  have HAT : Hid (IntsAt W a l) := hat
  have HI : Hid (∀ x ∈ l, I64 x) := hI
  have HN : Hid (∀ x ∈ zs, isNum x = true) := by
    intro x hx
    rw [hzs] at hx
    obtain ⟨y, _, rfl⟩ := List.mem_map.1 hx
    show isNum (y % 4294967296) = true
    simp [isNum]; omega
  obtain ⟨k, hk⟩ : ∃ k : Nat, k = (k0 % 25).toNat := ⟨_, rfl⟩
  have HK : Hid (k0 % 25 = (k : Int)) := by show _ = _; omega
  have hk24 : k ≤ 24 := by omega
  have HDL : Hid (∀ j, (digs (zs.take j) k).length ≤ 56 * 30) := by
    intro j
    have := (length_digs (zs.take j) k (fun x hx => HN.out x (List.mem_of_mem_take hx)) hk24).2
    have h2 : (zs.take j).length ≤ 30 := by simp; omega
    omega
  clear hzs hat hI hrow hblk hk
  go_enter Try.func3, Try.ntmps3
  go_wp2_with fail
  refine (within_any k0 25 W hk01 hk02 (by decide) (by decide)).mono ?_
  rw [HK.out]
  rintro e w0 ⟨rfl, rfl⟩
  go_wp2_with fail
  refine (newWriter_any _).mono ?_
  rintro e w1 ⟨rfl, hwa1, hb1, hs1⟩
  obtain ⟨b, hb⟩ : ∃ b, b = W.heap.size := ⟨_, rfl⟩
  rw [← hb] at hwa1 hs1 ⊢
  have HA1 : Hid (BackAt W w1 b (.slice none 0 0) (.slice none 0 0) [] []) := ⟨hwa1, OwnInts.nil _ _, fun i hi => by simp [Value.ownBlock] at hi, hb ▸ hb1⟩
  have hbW : W.heap.size ≤ b := by omega
  clear hwa1 hb1 hb
  go_wp2_with fail
  go_loopw [6, 7, 8] (fun v n i wr => ∃ (j : Nat) (rv : Value) (ds : List Bool), i = .int .i64 (j : Int) ∧ j ≤ zs.length ∧ n = .int .i64 (ds.length : Int) ∧ Hid (ds = digs (zs.take j) k) ∧ Hid (BackAt W wr b rv v ds (zs.take j))) (fun _ _ i _ => zs.length - (intOf i).toNat)
  case atStart => exact ⟨0, _, [], rfl, Nat.zero_le _, rfl, rfl, HA1.out⟩
  case round =>
    obtain ⟨j, rv, ds, rfl, hj, rfl, hds, hbk⟩ := hrel
    have hdl : ds.length ≤ 1680 := by rw [hds.out]; exact HDL.out j
    by_cases hjn : j < zs.length
    · have hj30 : j < 30 := by omega
      have hjl : j < l.length := by omega
      obtain ⟨x, hx⟩ : ∃ x, l[j]? = some x := ⟨l[j], by simp [hjl]⟩
      obtain ⟨b0, off, rfl, hc⟩ := HAT.out j x hx
      obtain ⟨hx1, hx2⟩ := HI.out x (List.mem_of_getElem? hx)
      have hc' : wr.cell? ⟨b0, off + j, none⟩ = some (.int .i64 x) := by
        rw [hbk.out.bel.cell (p := ⟨b0, off + j, none⟩) (World.block_lt_of_cell? W _ hc)]
        exact hc
      obtain ⟨y, hy⟩ : ∃ y, y = x % 4294967296 := ⟨_, rfl⟩
      have HY : Hid (x % 4294967296 = y) := hy.symm
      have hnx : zs.take (j + 1) = zs.take j ++ [y] := by
        rw [HZ.out, take_map_next l _ 30 j x hx hj30, ← HZ.out, hy]
      have HNX : Hid (zs.take (j + 1) = zs.take j ++ [y]) := hnx
      have hyn : isNum y = true := by simp [isNum]; omega
      have HYN : Hid (isNum y = true) := hyn
      obtain ⟨ds5, hd5⟩ : ∃ ds5, ds5 = ds ++ riceDig y k := ⟨_, rfl⟩
      have HD5 : Hid (ds5 = ds ++ riceDig y k) := hd5
      have hsz : sizeIn y k = ((riceDig y k).length : Int) := (length_riceDig y k (isNum_true hyn).1).symm
      have hszl : ((ds.length : Int) + sizeIn y k) = (ds5.length : Int) := by rw [hsz, hd5]; simp
      obtain ⟨sz, hszn⟩ : ∃ sz, sz = sizeIn y k := ⟨_, rfl⟩
      rw [← hszn] at hszl hsz
      have HSZ : Hid (sizeIn y k = sz) := hszn.symm
      have HSL : Hid ((ds.length : Int) + sz = (ds5.length : Int)) := hszl
      have hszb : 0 ≤ sz ∧ sz ≤ 56 := by
        have := length_riceDig_le y k (isNum_true hyn).1 hk24
        omega
      obtain ⟨hszb1, hszb2⟩ := hszb
      have hlt : (zs.take j).length ≤ 1000000 := by simp; omega
      clear hc hx hy hnx hyn hd5 hsz hszl hszn
      go_wp2_with first
        | (go_at_call 4; refine (within_any _ _ _ (by omega) (by omega) (by decide) (by decide)).mono ?_; rw [HY.out]; rintro e w2 ⟨rfl, rfl⟩)
        | (at_builtin; go_must (refine wpList_append_back W _ rfl (.tmp 38) (.tmp 40) 22 rfl i0 Try.underlying22 hi hz0 hz1 hz2 b rv _ ds (zs.take j) rfl hbk.out hbW y rfl hlt ?_))
      intro v2 w2 H2
      rw [← HNX.out] at H2
      go_wp2_with fail
      refine (ricePut_any w2 b rv ds y k H2.out.wt (by omega) HYN.out hk24).mono ?_
      rw [← HD5.out]
      rintro e w3 ⟨rfl, hw3⟩
      obtain ⟨rv3, hb3⟩ := H2.out.wrote hbW hw3
      have HB3 : Hid (BackAt W w3 b rv3 v2 ds5 (zs.take (j + 1))) := hb3
      clear hw3 hb3
      go_wp2_with (go_at_call 7; refine (size_in y k _ HYN.out hk24).mono ?_; rw [HSZ.out]; rintro e w4 ⟨rfl, rfl⟩)
      go_roundw
      case rel =>
        have HDD : Hid (ds5 = digs (zs.take (j + 1)) k) := by show _ = _; rw [HNX.out, digs_snoc, ← hds.out]; exact HD5.out
        first
          | exact ⟨j + 1, rv3, ds5, by go_num, by omega, by rw [HSL.out], HDD, HB3⟩
          | ((repeat apply Exists.intro); refine ⟨?_, rfl⟩; exact ⟨j + 1, rv3, ds5, by go_num, by omega, by rw [HSL.out], HDD, HB3⟩)
      case measure => simp [intOf]; omega
    · have ej : j = zs.length := by omega
      subst ej
      have hbk' := hbk.out
      rw [List.take_length] at hbk'
      have hds' := hds.out
      rw [List.take_length] at hds'
      have HDS : Hid (ds = digs zs k) := hds'
      obtain ⟨a', cap', rfl, hat', hor⟩ := hbk'.own.slice
      have HBK : Hid (BackAt W wr b rv (.slice a' zs.length cap') ds zs) := hbk'
      have HO : Hid (IntsAt wr a' zs) := hat'
      have HOR : Hid (∀ x, a' = some x → x.block < wr.heap.size) := by
        intro x hx
        rcases hor with ⟨h, _, _⟩ | ⟨g, h, _, h2⟩
        · rw [h] at hx; cases hx
        · rw [h] at hx; cases hx; exact h2
      have hsz : W.heap.size ≤ wr.heap.size := hbk'.bel.size
      have hbr : b < wr.heap.size := hbk'.wt.lt
      obtain ⟨bk, bs, hbest⟩ : ∃ (bk : Nat) (bs : Int), bestTo zs 24 = (bk, bs) := ⟨_, _, rfl⟩
      have HBEST : Hid (bestTo zs 24 = (bk, bs)) := hbest
      have hbk24 : bk ≤ 24 := by have := bestTo_le zs 24; rw [hbest] at this; exact this
      have HBS : Hid (sumSize zs bk = bs) := by have := bestTo_size zs 24; rw [hbest] at this; exact this.symm
      have hbsn : bs ≤ (ds.length : Int) := by
        have h1 := (bestTo_least zs 24 k hk24).1
        rw [hbest] at h1
        have h2 := (length_digs zs k HN.out hk24).1
        rw [← hds'] at h2
        omega
      obtain ⟨lb, hlb⟩ : ∃ lb, lb = pack ds := ⟨_, rfl⟩
      have HLB : Hid (lb = pack ds) := hlb
      have hlbl : lb.length ≤ 1000 := by rw [hlb, length_pack]; omega
      have HB256 : Hid (∀ x ∈ lb, x < 256) := by rw [hlb]; exact fun x hx => pack_lt ds x hx
      have hcc : (zs.length < l.length ∧ decide ((zs.length : Int) < 30) = false) ∨ l.length ≤ zs.length := by
        by_cases h : l.length ≤ zs.length
        · exact .inr h
        · exact .inl ⟨by omega, by simp; omega⟩
      clear hbk' hat' hor hbest hbk hds hds' hlb hzor HAT HI hnone hle hm
      rcases hcc with ⟨hc, hc'⟩ | hc
      all_goals
        go_wp2_with first
          | (go_at_call 8; refine (len_any _ _ rv ds HBK.out.wt).mono ?_; rintro e w2 ⟨rfl, rfl⟩)
          | fail
        refine (bytes_any wr b rv ds lb HLB.out HBK.out.wt (by omega)).mono ?_
        rintro e w5 ⟨rfl, hn5⟩
        have HN5 : Hid (NewBytes wr w5 lb) := hn5
        have hs5 : wr.heap.size < w5.heap.size := (hn5.1.lt _ rfl).2
        clear hn5
        go_wp2_with fail
        refine (newReader_any w5 _ lb (SlAt.of_owns HN5.out.1) (by omega) HB256.out).mono ?_
        rintro e w6 ⟨r, rfl, hr6, hrd6, hb6⟩
        obtain ⟨rvr, hrvr⟩ : ∃ rvr : Value, rvr = .slice (some ⟨w5.heap.size, 0, none⟩) lb.length lb.length := ⟨_, rfl⟩
        rw [← hrvr] at hrd6
        have hr6' : r < w6.heap.size := hrd6.lt
        have HG : Hid (GotAt W w6 r rvr lb 0 a' zs) := by
          refine ⟨hrd6, ?_, (HO.out.below HN5.out.2 HOR.out).below hb6 (fun x hx => ?_), fun x hx => ?_, (HBK.out.bel.trans (HN5.out.2.mono hsz)).trans (hb6.mono (by omega))⟩
          · intro i hi
            rw [hrvr] at hi
            simp [Value.ownBlock] at hi
            omega
          · have := HOR.out x hx; omega
          · have := HOR.out x hx; omega
        clear hrd6 hb6 hrvr HN5
        go_wp2_with fail
        go_loopw [63] (fun i ws => ∃ (j t : Nat), i = .int .i64 (j : Int) ∧ j ≤ zs.length ∧ Hid (t = (digs (zs.take j) k).length) ∧ Hid (GotAt W ws r rvr lb t a' zs)) (fun i _ => zs.length - (intOf i).toNat)
        case atStart => exact ⟨0, 0, rfl, Nat.zero_le _, rfl, HG.out⟩
        case round =>
          obtain ⟨j, t, rfl, hj, ht, hg⟩ := hrel
          by_cases hjn : j < zs.length
          · obtain ⟨y, hy⟩ : ∃ y, zs[j]? = some y := ⟨zs[j], by simp [hjn]⟩
            have hyn := isNum_true (HN.out y (List.mem_of_getElem? hy))
            obtain ⟨yn, rfl⟩ := Int.eq_ofNat_of_zero_le hyn.1
            obtain ⟨T, hT⟩ : ∃ T, T = (riceDig (yn : Int) k).length := ⟨_, rfl⟩
            have HRO : Hid (riceOut (left lb t) (k : Int) = (yn, T, true)) := by
              obtain ⟨rest, hrest⟩ := left_digs zs k j yn lb (by rw [HLB.out, HDS.out]) hy
              show _ = _
              rw [ht.out, hrest, riceOut_dig (yn : Int) k rest (by omega) hyn.2 hk24, hT]
              simp
            have HT : Hid (t + T = (digs (zs.take (j + 1)) k).length) := by
              show _ = _
              rw [List.take_add_one, hy]
              show _ = (digs (zs.take j ++ [(yn : Int)]) k).length
              rw [digs_snoc, List.length_append, ← hT, ← ht.out]
            obtain ⟨b0, off, rfl, hcell⟩ := hg.out.ints j yn hy
            have hbr0 : b0 ≠ r := hg.out.ap ⟨b0, off, none⟩ rfl
            have hb0w := World.block_lt_of_cell? wr _ hcell
            clear hy hyn hT
            go_wp2_with fail
            refine (riceGet_all wr r rvr lb t k hg.out.rd hg.out.own (yn, T, true) HRO.out).mono ?_
            rintro e w7 ⟨rfl, hr7, hk7⟩
            have hcell7 : w7.cell? ⟨b0, off + j, none⟩ = some (.int .i64 (yn : Int)) := by rw [hk7.cell hb0w hbr0]; exact hcell
            have HG7 : Hid (GotAt W w7 r rvr lb (t + T) (some ⟨b0, off, none⟩) zs) :=
              ⟨hr7, fun i hi => by have := hg.out.own i hi; have := hk7.size; omega, hg.out.ints.kept hk7 (fun x hx => hg.out.ap x hx), hg.out.ap, hk7.below_of hg.out.bel (fun i h => by omega) (hg.out.bel.size)⟩
            clear hr7 hk7 hcell hb0w hg
            go_wp2_with fail
            go_roundw
            case rel =>
              first
                | exact ⟨j + 1, t + T, by go_num, by omega, HT, HG7⟩
                | ((repeat apply Exists.intro); refine ⟨?_, rfl⟩; exact ⟨j + 1, t + T, by go_num, by omega, HT, HG7⟩)
            case measure => simp [intOf]; omega
          · have HIN : Hid (IntsAt wr a' zs) := hg.out.ints
            have HBW : Hid (Below W.heap.size W wr) := hg.out.bel
            obtain ⟨wy, hwy⟩ : ∃ wy, wy = wr := ⟨_, rfl⟩
            subst hwy
            clear hg HG HO HOR HBK
            go_wp2_with (go_at_call 12; refine (best_all _ _ _ zs HIN.out (by omega) HN.out bk bs HBEST).mono ?_; rintro e w2 ⟨rfl, rfl⟩)
            go_loopw [16, 90] (fun s i ws => ∃ (j : Nat) (t : Int), i = .int .i64 (j : Int) ∧ s = .int .i64 t ∧ j ≤ zs.length ∧ Hid (t = sumSize (zs.take j) bk) ∧ 0 ≤ t ∧ t ≤ 56 * j ∧ wy = ws) (fun s i _ => zs.length - (intOf i).toNat)
            case atStart => exact ⟨0, 0, rfl, rfl, Nat.zero_le _, rfl, by decide, by decide, rfl⟩
            case round =>
              obtain ⟨j, t, rfl, rfl, hj, ht, ht0, ht1, rfl⟩ := hrel
              by_cases hjn : j < zs.length
              · obtain ⟨x, hx⟩ : ∃ x, zs[j]? = some x := ⟨zs[j], by simp [hjn]⟩
                obtain ⟨b0, off, rfl, hcell⟩ := HIN.out j x hx
                obtain ⟨sz, hsz⟩ : ∃ sz, sz = sizeOf1 x bk := ⟨_, rfl⟩
                have hbd := sizeOf1_bounds x bk
                rw [← hsz] at hbd
                obtain ⟨hb1, hb2⟩ := hbd
                have HSZ : Hid (sz = sizeOf1 x bk) := hsz
                have HX : Hid (zs[j]? = some x) := hx
                clear hx hsz
                go_wp2_with (go_at_call 7; refine (size_any x bk _).mono ?_; rw [← HSZ.out]; rintro e w2 ⟨rfl, rfl⟩)
                go_roundw
                case rel =>
                  have HT : Hid (t + sz = sumSize (zs.take (j + 1)) bk) := by show _ = _; rw [sumSize_take zs bk j x HX.out, ← ht.out, ← HSZ.out]
                  have hg1 : 0 ≤ t + sz := by omega
                  have hg2 : t + sz ≤ 56 * ((j + 1 : Nat) : Int) := by omega
                  first
                    | exact ⟨j + 1, t + sz, by go_num, rfl, by omega, HT, hg1, hg2, by trivial⟩
                    | ((repeat apply Exists.intro); refine ⟨?_, rfl⟩; exact ⟨j + 1, t + sz, by go_num, rfl, by omega, HT, hg1, hg2, by trivial⟩)
                case measure => simp [intOf]; omega
              · have e : j = zs.length := by omega
                subst e
                have e2 := ht.out
                rw [List.take_length, HBS.out] at e2
                subst e2
                go_wp2_with (go_at_call 13; refine (wakes_any _).mono ?_; rintro e w9 ⟨rfl, rfl⟩)
                go_ret
                exact ⟨rfl, HBW.out⟩

end Go.Proofs.Ytiimgkkagfbkmab
