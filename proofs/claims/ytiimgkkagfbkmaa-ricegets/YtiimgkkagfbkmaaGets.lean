/- RiceGets: the walk. -/
import Derived.Test.YtiimgkkagfbkmaaRice8
namespace Go.Proofs.Ytiimgkkagfbkmaa
set_option linter.unusedVariables false
set_option linter.unusedSimpArgs false
open Go.RowKit Dg

/-- What the loop keeps: a reader and the document's digits, as much taken of each. -/
structure TookAt (w wr : World) (r : Nat) (rvr v : Value) (l : List Nat) (k : Nat) : Prop where
  rd : RdAt wr r rvr l k
  bt : BtAt wr v (left l k)
  ap : ∀ i, v.ownBlock = some i → r < i
  own : ∀ i, rvr.ownBlock = some i → i < wr.heap.size
  bel : Below w.heap.size w wr

set_option maxRecDepth 100000 in
set_option maxHeartbeats 4000000 in
theorem gets_any (w : World) (a : Option Addr) (len cap : Nat) (zs : List Int) (a2 : Option Addr) (len2 cap2 : Nat) (zs2 : List Int) (hr : IsRow .u8 w a len cap zs) (hr2 : IsRow .i64 w a2 len2 cap2 zs2) :
    Calls Try.prog 8 #[.slice a len cap, .slice a2 len2 cap2] w fun e w' => e = .returned (.bool true) ∧ Below w.heap.size w w' := by
  obtain ⟨l0, hl0, hl256, hsl⟩ := hr.bytes
  have hcut : len ≤ cap ∧ cap ≤ maxLen ∧ (a = none → len = 0 ∧ cap = 0) := by
    rcases hr with ⟨rfl, rfl, rfl, rfl⟩ | ⟨x, rfl, hle, hm, hz, hc, hwf⟩
    · exact ⟨Nat.le_refl _, by decide, fun _ => ⟨rfl, rfl⟩⟩
    · exact ⟨hle, hm, fun h => by cases h⟩
  obtain ⟨hc1, hc2, hc3⟩ := hcut
  obtain ⟨l, hl⟩ : ∃ l, l = l0.take (min len 60) := ⟨_, rfl⟩
  have hll : l.length = min len 60 := by rw [hl]; simp; omega
  have H256 : Hid (∀ x ∈ l, x < 256) := by rw [hl]; exact fun x hx => hl256 x (List.mem_of_mem_take hx)
  have HS : Hid (SlAt w (.slice a l.length cap) l) := by rw [hll, hl]; exact hsl _ (by omega)
  have HC3 : Hid (a = none → len = 0 ∧ cap = 0) := hc3
  have HLL : Hid (min len 60 = l.length) := hll.symm
  have hl60 : l.length ≤ 60 := by omega
  obtain ⟨ks, hks, hI2, hat2, hle2, hm2, hnone2, hblk2⟩ := hr2.ints
  unfold maxLen at hm2
  subst hks
  have HKS : Hid (IntsAt w a2 ks) := hat2
  clear hl hl0 hl256 hsl hr hll hc3 hat2 hI2 hnone2 hblk2 hr2
  go_enter Try.func8, Try.ntmps8
  go_wp2_with fail
  refine (cut_any w a len cap 60 (by decide) hc1 hc2 HC3.out).mono ?_
  rintro e w0 ⟨rfl, rfl⟩
  rw [HLL.out]
  clear hc1 hc2 HC3 HLL
  go_wp2_with fail
  refine (newReader_any w _ l HS.out (by omega) H256.out).mono ?_
  rintro e w2 ⟨r, rfl, hr, hrd, hb2⟩
  obtain ⟨rvr, hrvr⟩ : ∃ rvr : Value, rvr = .slice (some ⟨w.heap.size, 0, none⟩) l.length l.length := ⟨_, rfl⟩
  rw [← hrvr] at hrd
  have HR2 : Hid (RdAt w2 r rvr l 0) := hrd
  have HB2 : Hid (Below w.heap.size w w2) := hb2
  have hs2 : w.heap.size ≤ w2.heap.size := hb2.size
  have hr2 : r < w2.heap.size := hrd.lt
  have HRV : Hid (∀ i, rvr.ownBlock = some i → i < w2.heap.size) := by
    intro i hi
    rw [hrvr] at hi
    simp [Value.ownBlock] at hi
    omega
  clear hrd hb2 hrvr
  go_wp2_with fail
  refine (of_any w2 _ l (HS.out.below HB2.out) (by omega) H256.out).mono ?_
  rintro e w3 ⟨v3, rfl, hown3, hb3⟩
  have hs3 : w2.heap.size ≤ w3.heap.size := hb3.size
  have HRA : Hid (TookAt w w3 r rvr v3 l 0) :=
    ⟨HR2.out.below hb3, BtAt.of_owns hown3, fun i hi => by have := (hown3.lt i hi).1; omega, fun i hi => by have := HRV.out i hi; omega, HB2.out.trans (hb3.mono (by omega))⟩
  clear hown3 hb3 HR2 HB2 HRV HS
  go_wp2_with fail
  go_loopw [6, 7] (fun v i wr => ∃ (j k : Nat), j ≤ 20 ∧ i = .int .i64 j ∧ w.heap.size < wr.heap.size ∧ Hid (TookAt w wr r rvr v l k)) (fun _ i _ => 20 - (intOf i).toNat)
  case atStart => exact ⟨0, 0, Nat.zero_le _, rfl, by omega, HRA.out⟩
  case round =>
    obtain ⟨j, at_, hj20, rfl, hws, hra⟩ := hrel
    by_cases hlt : j < ks.length ∧ j < 20
    · obtain ⟨hjl, hj2⟩ := hlt
      obtain ⟨K, hK⟩ : ∃ x, ks[j]? = some x := ⟨ks[j], by simp [hjl]⟩
      obtain ⟨c, off, rfl, hcell⟩ := HKS.out j K hK
      have hcb := World.block_lt_of_cell? w _ hcell
      have HC : Hid (∀ wx, Below w.heap.size w wx → wx.cell? ⟨c, off + j, none⟩ = some (.int .i64 K)) := fun wx hx => by rw [hx.cell (p := ⟨c, off + j, none⟩) hcb]; exact hcell
      clear hcell hcb hK
      obtain ⟨o, ho⟩ : ∃ o, o = riceOut (left l at_) K := ⟨_, rfl⟩
      have HO : Hid (riceOut (left l at_) K = o) := ho.symm
      have hof : o.2.2 = false → o = (0, 0, false) := fun h => by rw [ho] at h ⊢; exact riceOut_false _ _ h
      have HOF : Hid (o.2.2 = false → o = (0, 0, false)) := hof
      clear ho hof
      obtain ⟨X, T, B⟩ := o
      have c0 := HC.out wr hra.out.bel
      go_wp2_with fail
      refine (riceGet_all wr r rvr l at_ K hra.out.rd hra.out.own (X, T, B) HO.out).mono ?_
      rintro e w4 ⟨rfl, hr4, hk4⟩
      have HR4 : Hid (RdAt w4 r rvr l (at_ + T)) := hr4
      have HT4 : Hid (BtAt w4 u6 (left l at_)) := hra.out.bt.kept hk4 (fun i hi h => by have := hra.out.ap i hi; omega)
      have HB4 : Hid (Below w.heap.size w w4) := hk4.below_of hra.out.bel (fun i h => by omega) (by omega)
      have hs4 : wr.heap.size ≤ w4.heap.size := hk4.size
      have HAP : Hid (∀ i, u6.ownBlock = some i → r < i) := hra.out.ap
      have HOWN : Hid (∀ i, rvr.ownBlock = some i → i < w4.heap.size) := fun i hi => by have := hra.out.own i hi; omega
      have d0 := HC.out w4 HB4.out
      clear hr4 hk4 hra c0
      go_wp2_with fail
      refine (rtake_all w4 u6 l at_ K HT4.out (X, T, B) HO.out).mono ?_
      rintro e w5 ⟨v5, rfl, hbt5, hap5, m5, rfl⟩
      cases B with
      | true =>
        obtain ⟨a5, c5, hf5⟩ := hbt5.form
        obtain ⟨ds, hds⟩ : ∃ ds, ds = left l (at_ + T) := ⟨_, rfl⟩
        have hdl : ((ds.length : Nat) : Int) = 8 * (l.length : Int) - ((at_ + T : Nat) : Int) := by
          have h1 := left_len l (at_ + T)
          have h2 := HR4.out.le
          rw [hds, h1]; omega
        rw [← hds] at hbt5 hf5
        have HT5 : Hid (BtAt (w4.drewN m5) v5 ds) := hbt5
        have HAP5 : Hid (∀ i, v5.ownBlock = some i → r < i) := fun i hi => HAP.out i (hap5 i hi)
        have HDS : Hid (ds = left l (at_ + T)) := hds
        subst hf5
        clear hbt5 hap5 hds HT4 HAP d0
        have hdl' : (8 * (l.length : Int) - ((at_ : Int) + T)) = ((ds.length : Nat) : Int) := by rw [hdl]; push_cast; omega
        clear hdl
        go_wp2_with (go_at_call 33; refine (left_any _ r rvr l (at_ + T) (HR4.out.drewN m5)).mono ?_; rintro e w6 ⟨rfl, rfl⟩)
        go_roundw
        case rel =>
          have HF : Hid (TookAt w (w4.drewN (m5 + 1)) r rvr (.slice a5 ds.length c5) l (at_ + T)) := ⟨HR4.out.drewN (m5 + 1), by rw [← HDS.out]; exact HT5.out, HAP5.out, HOWN.out, below_drewN HB4.out (m5 + 1)⟩
          first | exact ⟨j + 1, at_ + T, by omega, by go_num, by show _ < w4.heap.size; omega, HF⟩ | ((repeat apply Exists.intro); refine ⟨?_, rfl⟩; exact ⟨j + 1, at_ + T, by omega, by go_num, by show _ < w4.heap.size; omega, HF⟩)
        case measure => simp [intOf]; omega
      | false =>
        have e0 := HOF.out rfl
        cases e0
        obtain ⟨a5, c5, hf5⟩ := HT4.out.form
        obtain ⟨ds, hds⟩ : ∃ ds, ds = left l at_ := ⟨_, rfl⟩
        have hdl : ((ds.length : Nat) : Int) = 8 * (l.length : Int) - (at_ : Int) := by
          have h1 := left_len l at_
          have h2 := HR4.out.le
          rw [hds, h1]; omega
        rw [← hds] at hf5
        have HT5 : Hid (BtAt w4 u6 ds) := by rw [hds]; exact HT4.out
        have HDS : Hid (ds = left l at_) := hds
        have HR5 : Hid (RdAt w4 r rvr l at_) := HR4.out
        subst hf5
        clear hbt5 hap5 hds HT4 d0
        have hdl' : (8 * (l.length : Int) - (at_ : Int)) = ((ds.length : Nat) : Int) := by rw [hdl]
        clear hdl
        go_wp2_with (go_at_call 33; refine (left_any _ r rvr l at_ (HR5.out.drewN m5)).mono ?_; rintro e w6 ⟨rfl, rfl⟩)
        go_roundw
        case rel =>
          have HF : Hid (TookAt w (w4.drewN (m5 + 1)) r rvr (.slice a5 ds.length c5) l at_) := ⟨HR5.out.drewN (m5 + 1), by rw [← HDS.out]; exact HT5.out, HAP.out, HOWN.out, below_drewN HB4.out (m5 + 1)⟩
          first | exact ⟨j + 1, at_, by omega, by go_num, by show _ < w4.heap.size; omega, HF⟩ | ((repeat apply Exists.intro); refine ⟨?_, rfl⟩; exact ⟨j + 1, at_, by omega, by go_num, by show _ < w4.heap.size; omega, HF⟩)
        case measure => simp [intOf]; omega
    · have cs : ks.length ≤ j ∨ (j < ks.length ∧ j = 20) := by omega
      have HB : Hid (Below w.heap.size w wr) := hra.out.bel
      clear hlt hra HKS
      rcases cs with h0 | ⟨h0, rfl⟩
      all_goals
        go_wp2_with (go_at_call 12; refine (wakes_any _).mono ?_; rintro e w9 ⟨rfl, rfl⟩)
        go_ret
        exact ⟨rfl, HB.out⟩

end Go.Proofs.Ytiimgkkagfbkmaa
