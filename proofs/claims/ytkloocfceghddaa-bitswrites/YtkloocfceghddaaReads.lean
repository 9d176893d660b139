/- BitsReads: the walk of the law. -/
import Derived.Test.YtkloocfceghddaaRef5
namespace Go.Proofs.Ytkloocfceghddaa
set_option linter.unusedVariables false
set_option linter.unusedSimpArgs false
open Go.RowKit Dg

theorem get_all' (w : World) (b : Nat) (rv : Value) (l : List Nat) (k : Nat) (n : Int) (h : RdAt w b rv l k) (o : Nat × Nat × Bool) (ho : getOut (left l k) n = o) :
    Calls Try.prog 14 #[.pointer (some ⟨b, 0, none⟩), .int .i64 n] w fun e w' => e = .returned (.tuple #[.int .i64 (o.1 : Nat), .bool o.2.2]) ∧ RdAt w' b rv l (k + o.2.1) ∧ Kept (fun i => i = b) w w' := by
  subst ho; exact get_all w b rv l k n h
theorem rones_all' (w : World) (b : Nat) (rv : Value) (l : List Nat) (k : Nat) (n : Int) (h : RdAt w b rv l k) (o : Nat × Nat × Bool) (ho : onesOut (left l k) n = o) :
    Calls Try.prog 21 #[.pointer (some ⟨b, 0, none⟩), .int .i64 n] w fun e w' => e = .returned (.tuple #[.int .i64 (o.1 : Nat), .bool o.2.2]) ∧ RdAt w' b rv l (k + o.2.1) ∧ Kept (fun i => i = b) w w' := by
  subst ho; exact rones_all w b rv l k n h
theorem rget_all' (w : World) (v : Value) (l : List Nat) (k : Nat) (n : Int) (h : BtAt w v (left l k)) (o : Nat × Nat × Bool) (ho : getOut (left l k) n = o) :
    Calls Try.prog 29 #[v, .int .i64 n] w fun e w' => ∃ v', e = .returned (.tuple #[.int .i64 (o.1 : Nat), v', .bool o.2.2]) ∧ BtAt w' v' (left l (k + o.2.1)) ∧ (∀ k, v'.ownBlock = some k → v.ownBlock = some k) ∧ ∃ m, w' = w.drewN m := by
  subst ho; rw [left_drop]; exact rget_all w v _ n h
theorem take_all' (w : World) (v : Value) (l : List Nat) (k : Nat) (n : Int) (h : BtAt w v (left l k)) (o : Nat × Nat × Bool) (ho : onesOut (left l k) n = o) :
    Calls Try.prog 28 #[v, .int .i64 n] w fun e w' => ∃ v', e = .returned (.tuple #[.int .i64 (o.1 : Nat), v', .bool o.2.2]) ∧ BtAt w' v' (left l (k + o.2.1)) ∧ (∀ k, v'.ownBlock = some k → v.ownBlock = some k) ∧ ∃ m, w' = w.drewN m := by
  subst ho; rw [left_drop]; exact take_all w v _ n h

theorem BtAt.form {w : World} {v : Value} {ds : List Bool} (h : BtAt w v ds) : ∃ a cap, v = .slice a ds.length cap := by
  rcases h with ⟨rfl, rfl⟩ | ⟨b, off, cap, rfl, _⟩
  · exact ⟨none, 0, rfl⟩
  · exact ⟨_, cap, rfl⟩

theorem RowIs.sl {w : World} {g : Nat} {l : List Nat} (h : RowIs w g (u8s (l ++ [85, 85, 85]))) : SlAt w (.slice (some ⟨g, 0, none⟩) l.length (l.length + 3)) l := by
  refine ⟨some ⟨g, 0, none⟩, l.length + 3, rfl, fun j x hx => ⟨g, 0, rfl, ?_⟩⟩
  rw [Nat.zero_add]
  refine h.cell ?_
  rw [u8s_get, List.getElem?_append_left (List.getElem?_eq_some_iff.1 hx).1, hx]
  rfl

theorem RdAt.drewN {w : World} {b : Nat} {rv : Value} {l : List Nat} {k : Nat} (n : Nat) (h : RdAt w b rv l k) : RdAt (w.drewN n) b rv l k := ⟨h.box, h.row, h.le, h.ne, h.byte, h.small⟩

theorem rest_all' (w : World) (b : Nat) (rv : Value) (l : List Nat) (k : Nat) (h : RdAt w b rv l k) (q : Bool) (hq : q = noOnes (left l k)) :
    Calls Try.prog 30 #[.pointer (some ⟨b, 0, none⟩)] w fun e w' => e = .returned (.bool q) ∧ w = w' := by subst hq; exact rest_all w b rv l k h
theorem rrest_all' (w : World) (v : Value) (ds : List Bool) (h : BtAt w v ds) (hlen : ds.length ≤ 4398046511104) (q : Bool) (hq : q = noOnes ds) :
    Calls Try.prog 31 #[v] w fun e w' => e = .returned (.bool q) ∧ w = w' := by subst hq; exact rrest_all w v ds h hlen

/-- What the loop keeps: a reader and the document's digits, as much taken of each. -/
structure ReadAt (w wr : World) (r g : Nat) (rvr v : Value) (l : List Nat) (k : Nat) : Prop where
  rd : RdAt wr r rvr l k
  bt : BtAt wr v (left l k)
  ap : ∀ i, v.ownBlock = some i → r < i
  row : RowIs wr g (u8s (l ++ [85, 85, 85]))
  bel : Below w.heap.size w wr

set_option maxRecDepth 100000 in
set_option maxHeartbeats 4000000 in
theorem reads_any (w : World) (a : Option Addr) (len cap : Nat) (zs : List Int) (a2 : Option Addr) (len2 cap2 : Nat) (f : Nat → Int × Int × Int) (hr : IsRow .u8 w a len cap zs) (hlen2 : len2 ≤ maxLen) (hf : ActsAt w a2 len2 f) :
    Calls Try.prog 7 #[.slice a len cap, .slice a2 len2 cap2] w fun e w' => e = .returned (.bool true) ∧ Below w.heap.size w w' := by
  obtain ⟨l0, hl0, hl256, hsl⟩ := hr.bytes
  have hcut : len ≤ cap ∧ cap ≤ maxLen ∧ (a = none → len = 0 ∧ cap = 0) := by
    rcases hr with ⟨rfl, rfl, rfl, rfl⟩ | ⟨x, rfl, hle, hm, hz, hc, hwf⟩
    · exact ⟨Nat.le_refl _, by decide, fun _ => ⟨rfl, rfl⟩⟩
    · exact ⟨hle, hm, fun h => by cases h⟩
  obtain ⟨hc1, hc2, hc3⟩ := hcut
  obtain ⟨l, hl⟩ : ∃ l, l = l0.take (min len 60) := ⟨_, rfl⟩
  have hll : l.length = min len 60 := by rw [hl]; simp; omega
  have H256 : Hid (∀ x ∈ l, x < 256) := by rw [hl]; exact fun x hx => hl256 x (List.mem_of_mem_take hx)
  have HS : Hid (SlAt w (.slice a l.length cap) l) := by rw [hll, hl]; exact hsl _ (by omega)
  have HC3 : Hid (a = none → len = 0 ∧ cap = 0) := hc3
  have HLL : Hid (min len 60 = l.length) := hll.symm
  have hl60 : l.length ≤ 60 := by omega
  have HF : Hid (ActsAt w a2 len2 f) := hf
  unfold maxLen at hlen2
  clear hl hl0 hl256 hsl hr hll hc3 hf
  go_enter Try.func7, Try.ntmps7
  go_wp2_with fail
  refine (cut_any w a len cap 60 (by decide) hc1 hc2 HC3.out).mono ?_
  rintro e w0 ⟨rfl, rfl⟩
  rw [HLL.out]
  clear hc1 hc2 HC3 HLL
  go_wp2_with fail
  refine (lend_any w _ l HS.out (by omega)).mono ?_
  rintro e w1 ⟨rfl, hrow1, hb1⟩
  obtain ⟨g, hg⟩ : ∃ g, g = w.heap.size := ⟨_, rfl⟩
  rw [← hg] at hrow1 ⊢
  have HG : Hid (g = w.heap.size) := hg
  have HROW1 : Hid (RowIs w1 g (u8s (l ++ [85, 85, 85]))) := hrow1
  have HB1 : Hid (Below w.heap.size w w1) := by rw [← hg]; rw [hg]; exact hb1
  have hs1 : w.heap.size < w1.heap.size := by have := hrow1.lt; omega
  clear hg hrow1 hb1
  go_wp2_with fail
  refine (newReader_any w1 _ l HROW1.out.sl (by omega) H256.out).mono ?_
  rintro e w2 ⟨r, rfl, hr, hrd, hb2⟩
  obtain ⟨rvr, hrvr⟩ : ∃ rvr : Value, rvr = .slice (some ⟨w1.heap.size, 0, none⟩) l.length l.length := ⟨_, rfl⟩
  rw [← hrvr] at hrd
  have HR2 : Hid (RdAt w2 r rvr l 0) := hrd
  have HROW2 : Hid (RowIs w2 g (u8s (l ++ [85, 85, 85]))) := HROW1.out.below hb2
  have HB2 : Hid (Below w.heap.size w w2) := HB1.out.trans (hb2.mono (by omega))
  have hs2 : w1.heap.size ≤ w2.heap.size := hb2.size
  have hr2 : r < w2.heap.size := hrd.lt
  clear hrd hb2 hrvr HROW1 HB1
  go_wp2_with fail
  refine (of_any w2 _ l (HS.out.below HB2.out) (by omega) H256.out).mono ?_
  rintro e w3 ⟨v3, rfl, hown3, hb3⟩
  have HRA : Hid (ReadAt w w3 r g rvr v3 l 0) :=
    ⟨HR2.out.below hb3, BtAt.of_owns hown3, fun i hi => by have := (hown3.lt i hi).1; omega, HROW2.out.below hb3, HB2.out.trans (hb3.mono (by omega))⟩
  have hs3 : w2.heap.size ≤ w3.heap.size := hb3.size
  have hgr : g < r := by have := HG.out; omega
  clear hown3 hb3 HR2 HROW2 HB2
  go_wp2_with fail
  go_loopw [7, 8] (fun v i wr => ∃ (j k : Nat), j ≤ len2 ∧ j ≤ 30 ∧ i = .int .i64 j ∧ w.heap.size < wr.heap.size ∧ Hid (ReadAt w wr r g rvr v l k)) (fun _ i _ => 30 - (intOf i).toNat)
  case atStart => exact ⟨0, 0, Nat.zero_le _, Nat.zero_le _, rfl, by omega, HRA.out⟩
  case round =>
    obtain ⟨j, k, hj, hj30, rfl, hws, hra⟩ := hrel
    by_cases hlt : j < len2 ∧ j < 30
    · obtain ⟨hjl, hj3⟩ := hlt
      obtain ⟨c, off, rfl, hcl, h0, h1, h2, i0, i1, i2⟩ := HF.out.below hra.out.bel j hjl
      obtain ⟨t, ht⟩ : ∃ t, t = f j := ⟨_, rfl⟩
      rw [← ht] at h0 h1 h2 i0 i1 i2
      have I0 : Hid (I64 t.1) := i0
      clear ht i0 i1 i2 h1
      obtain ⟨D, V, N⟩ := t
      simp only at h0 h2
      go_wp2_with fail
      refine (within_nat D 3 _ I0.out.1 I0.out.2 (by decide) (by decide) _ rfl).mono ?_
      rintro e w' ⟨d3, rfl, hd3, -, rfl⟩
      by_cases hd : d3 = 2
      · subst hd
        obtain ⟨o, ho⟩ : ∃ o, o = onesOut (left l k) N := ⟨_, rfl⟩
        have HO : Hid (onesOut (left l k) N = o) := ho.symm
        clear ho
        obtain ⟨X, T, B⟩ := o
        go_wp2_with fail
        refine (rones_all' wr r rvr l k N hra.out.rd (X, T, B) HO.out).mono ?_
        rintro e w4 ⟨rfl, hr4, hk4⟩
        have HR4 : Hid (RdAt w4 r rvr l (k + T)) := hr4
        have HT4 : Hid (BtAt w4 u7 (left l k)) := hra.out.bt.kept hk4 (fun i hi h => by have := hra.out.ap i hi; omega)
        have HW4 : Hid (RowIs w4 g (u8s (l ++ [85, 85, 85]))) := hra.out.row.kept hk4 (by omega)
        have HB4 : Hid (Below w.heap.size w w4) := hk4.below_of hra.out.bel (fun i h => by omega) (by omega)
        have hs4 : wr.heap.size ≤ w4.heap.size := hk4.size
        have HAP : Hid (∀ i, u7.ownBlock = some i → r < i) := hra.out.ap
        clear hr4 hk4 hra
        go_wp2_with fail
        refine (take_all' w4 u7 l k N HT4.out (X, T, B) HO.out).mono ?_
        rintro e w5 ⟨v5, rfl, hbt5, hap5, m5, rfl⟩
        obtain ⟨a5, c5, hf5⟩ := hbt5.form
        obtain ⟨ds, hds⟩ : ∃ ds, ds = left l (k + T) := ⟨_, rfl⟩
        have hdl : ((ds.length : Nat) : Int) = 8 * (l.length : Int) - ((k + T : Nat) : Int) := by
          have h1 := left_len l (k + T)
          have h2 := HR4.out.le
          rw [hds, h1]; omega
        have hdl2 : ds.length ≤ 480 := by have h1 := left_len l (k + T); rw [hds, h1]; omega
        rw [← hds] at hbt5 hf5
        have HT5 : Hid (BtAt (w4.drewN m5) v5 ds) := hbt5
        have HAP5 : Hid (∀ i, v5.ownBlock = some i → r < i) := fun i hi => HAP.out i (hap5 i hi)
        have HDS : Hid (ds = left l (k + T)) := hds
        subst hf5
        clear hbt5 hap5 hds HT4 HAP
        obtain ⟨q, hq⟩ : ∃ q, q = noOnes ds := ⟨_, rfl⟩
        have HQ : Hid (q = noOnes ds) := hq
        clear hq
        have hdl' : (8 * (l.length : Int) - ((k : Int) + T)) = ((ds.length : Nat) : Int) := by rw [hdl]; push_cast; omega
        clear hdl
        go_wp2_with (first
          | (go_at_call 19; refine (left_any _ r rvr l (k + T) (HR4.out.drewN m5)).mono ?_; rintro e w6 ⟨rfl, rfl⟩)
          | (go_at_call 30; refine (rest_all' _ r rvr l (k + T) (HR4.out.drewN m5).drew q (by rw [HQ.out, HDS.out])).mono ?_; rintro e w6 ⟨rfl, rfl⟩)
          | (go_at_call 31; refine (rrest_all' _ _ ds HT5.out.drew (by omega) q HQ.out).mono ?_; rintro e w6 ⟨rfl, rfl⟩))
        go_roundw
        case rel => first | exact ⟨j + 1, k + T, by omega, by omega, by go_num, by show _ < w4.heap.size; omega, ⟨(HR4.out.drewN m5).drew, by rw [← HDS.out]; exact HT5.out.drew, HAP5.out, HW4.out, (below_drewN HB4.out m5).drew⟩⟩ | ((repeat apply Exists.intro); refine ⟨?_, rfl⟩; exact ⟨j + 1, k + T, by omega, by omega, by go_num, by show _ < w4.heap.size; omega, ⟨(HR4.out.drewN m5).drew, by rw [← HDS.out]; exact HT5.out.drew, HAP5.out, HW4.out, (below_drewN HB4.out m5).drew⟩⟩)
        case measure => simp [intOf]; omega
      · have hd2 : ((d3 : Int) == 2) = false := by simp; omega
        obtain ⟨o, ho⟩ : ∃ o, o = getOut (left l k) N := ⟨_, rfl⟩
        have HO : Hid (getOut (left l k) N = o) := ho.symm
        clear ho
        obtain ⟨X, T, B⟩ := o
        go_wp2_with fail
        refine (get_all' wr r rvr l k N hra.out.rd (X, T, B) HO.out).mono ?_
        rintro e w4 ⟨rfl, hr4, hk4⟩
        have HR4 : Hid (RdAt w4 r rvr l (k + T)) := hr4
        have HT4 : Hid (BtAt w4 u7 (left l k)) := hra.out.bt.kept hk4 (fun i hi h => by have := hra.out.ap i hi; omega)
        have HW4 : Hid (RowIs w4 g (u8s (l ++ [85, 85, 85]))) := hra.out.row.kept hk4 (by omega)
        have HB4 : Hid (Below w.heap.size w w4) := hk4.below_of hra.out.bel (fun i h => by omega) (by omega)
        have hs4 : wr.heap.size ≤ w4.heap.size := hk4.size
        have HAP : Hid (∀ i, u7.ownBlock = some i → r < i) := hra.out.ap
        clear hr4 hk4 hra
        go_wp2_with fail
        refine (rget_all' w4 u7 l k N HT4.out (X, T, B) HO.out).mono ?_
        rintro e w5 ⟨v5, rfl, hbt5, hap5, m5, rfl⟩
        obtain ⟨a5, c5, hf5⟩ := hbt5.form
        obtain ⟨ds, hds⟩ : ∃ ds, ds = left l (k + T) := ⟨_, rfl⟩
        have hdl : ((ds.length : Nat) : Int) = 8 * (l.length : Int) - ((k + T : Nat) : Int) := by
          have h1 := left_len l (k + T)
          have h2 := HR4.out.le
          rw [hds, h1]; omega
        have hdl2 : ds.length ≤ 480 := by have h1 := left_len l (k + T); rw [hds, h1]; omega
        rw [← hds] at hbt5 hf5
        have HT5 : Hid (BtAt (w4.drewN m5) v5 ds) := hbt5
        have HAP5 : Hid (∀ i, v5.ownBlock = some i → r < i) := fun i hi => HAP.out i (hap5 i hi)
        have HDS : Hid (ds = left l (k + T)) := hds
        subst hf5
        clear hbt5 hap5 hds HT4 HAP
        obtain ⟨q, hq⟩ : ∃ q, q = noOnes ds := ⟨_, rfl⟩
        have HQ : Hid (q = noOnes ds) := hq
        clear hq
        have hdl' : (8 * (l.length : Int) - ((k : Int) + T)) = ((ds.length : Nat) : Int) := by rw [hdl]; push_cast; omega
        clear hdl
        go_wp2_with (first
          | (go_at_call 19; refine (left_any _ r rvr l (k + T) (HR4.out.drewN m5)).mono ?_; rintro e w6 ⟨rfl, rfl⟩)
          | (go_at_call 30; refine (rest_all' _ r rvr l (k + T) (HR4.out.drewN m5).drew q (by rw [HQ.out, HDS.out])).mono ?_; rintro e w6 ⟨rfl, rfl⟩)
          | (go_at_call 31; refine (rrest_all' _ _ ds HT5.out.drew (by omega) q HQ.out).mono ?_; rintro e w6 ⟨rfl, rfl⟩))
        go_roundw
        case rel => first | exact ⟨j + 1, k + T, by omega, by omega, by go_num, by show _ < w4.heap.size; omega, ⟨(HR4.out.drewN m5).drew, by rw [← HDS.out]; exact HT5.out.drew, HAP5.out, HW4.out, (below_drewN HB4.out m5).drew⟩⟩ | ((repeat apply Exists.intro); refine ⟨?_, rfl⟩; exact ⟨j + 1, k + T, by omega, by omega, by go_num, by show _ < w4.heap.size; omega, ⟨(HR4.out.drewN m5).drew, by rw [← HDS.out]; exact HT5.out.drew, HAP5.out, HW4.out, (below_drewN HB4.out m5).drew⟩⟩)
        case measure => simp [intOf]; omega
    · go_wp2_with fail
      all_goals
        refine (intact_any wr g _ l hra.out.row (HS.out.below hra.out.bel) (by omega)).mono ?_
        rintro e w4 ⟨rfl, m4, rfl⟩
        go_wp2_with fail
        refine (wakes_any _).mono ?_
        rintro e w5 ⟨rfl, hb5⟩
        go_wp2
        go_ret
        exact ⟨rfl, (below_drewN hra.out.bel m4).trans (hb5.mono (by show _ ≤ wr.heap.size; omega))⟩

end Go.Proofs.Ytkloocfceghddaa
