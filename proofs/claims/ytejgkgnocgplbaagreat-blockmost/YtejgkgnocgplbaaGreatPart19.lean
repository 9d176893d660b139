/- The texts BlkRef3, BPacks, BlkRef2, Lists, one behind the other. -/
import Derived.Test.YtejgkgnocgplbaaGreatPart18
import Derived.Test.YtejgkgnocgplbaaGreatPart15
import Derived.Laws.BytesArg
import Derived.Deep.RegionWith
import Derived.Test.YtejgkgnocgplbaaGreatPart02
import Derived.Deep.Matrix

/- The document's own Pack. -/
namespace Go.Proofs.YtejgkgnocgplbaaGreat
set_option linter.unusedVariables false
set_option linter.unusedSimpArgs false
open Go.RowKit Dg Cr

theorem renc_at (w : World) (s n : Nat) (a : Option Addr) (cap : Nat) (l : List Int) (hn : l.length = n) (hl : Ns w a cap l) (hll : l.length ≤ 1000000) (hs : mayX l → IsShift (autoZ l 0) s) (R : List Nat × Int) (hR : R = encOut l s) :
    Calls Tryz.prog 43 #[.slice a n cap] w fun e w' => GaveN w w' R e := by
  subst hn
  exact renc_any w s a cap l hl hll hs R hR
/-- Bytes, a number and an error that were given. -/
def GaveP (w w' : World) (R : List Nat × Nat × Int) (e : Ending) : Prop := ∃ v, e = .returned (.tuple #[v, .int .i64 (R.2.1 : Nat), .int .i64 R.2.2]) ∧ OwnBytes w' w.heap.size v R.1 ∧ Below w.heap.size w w'
/-- The number is found from above. -/
theorem packM_is {x : List Int} {M k : Nat} (hk : k ≤ M) (h0 : 0 < k) (h1 : ∀ j, k < j → j ≤ M → 124 < (encB (x.take j)).length) (h2 : (encB (x.take k)).length ≤ 124) : packM x M = k := by
  have h3 := packM_le x M
  rcases (by omega : packM x M < k ∨ packM x M = k ∨ k < packM x M) with h | h | h
  · have := packM_most x M k h hk; omega
  · exact h
  · have h4 := h1 (packM x M) h h3
    have h5 := packM_fits x M (by omega)
    omega
theorem Ns.first {w : World} {a : Option Addr} {cap : Nat} {l : List Int} (h : Ns w a cap l) (k : Nat) (hk : k ≤ l.length) : Ns w a cap (l.take k) := ⟨h.at_.take k, by have := h.le; simp; omega, h.nil⟩

set_option maxRecDepth 100000 in
set_option maxHeartbeats 4000000 in
theorem rpack_any (w : World) (a : Option Addr) (cap : Nat) (x : List Int) (h : Ns w a cap x) (hl : x.length ≤ 100000) (R : List Nat × Nat × Int) (hR : R = packOut x) :
    Calls Tryz.prog 23 #[.slice a x.length cap] w fun e w' => GaveP w w' R e := by
  have HN := hid_of h
  unfold packOut at hR
  have hle := h.le
  clear h
  by_cases h0 : x.length = 0
  · rw [if_pos h0] at hR
    have HR := hid_of hR
    have hb : ((x.length : Int) == 0) = true := beq_iff_eq.2 (by omega)
    clear hR h0
    go_enter Tryz.func23, Tryz.ntmps23
    go_wp2_with fail
    go_ret3
    rw [HR.out]
    exact ⟨_, rfl, OwnBytes.nil _ _, Below.refl _ _⟩
  rw [if_neg h0] at hR
  have HR := hid_of hR
  have hb : ((x.length : Int) == 0) = false := beq_eq_false_iff_ne.2 (by omega)
  have hx1 : 1 ≤ x.length := by omega
  clear hR h0
  go_enter Tryz.func23, Tryz.ntmps23
  go_wp2_with fail
  go_loopw [16] (fun i wr => ∃ k d : Nat, k ≤ x.length ∧ i = .int .i64 (k : Int) ∧ Hid (allS (x.take k)) ∧ wr = w.drewN d) (fun i _ => x.length - (intOf i).toNat)
  case atStart => exact ⟨0, 0, Nat.zero_le _, rfl, fun v hv => by simp at hv, rfl⟩
  case round =>
    obtain ⟨k, d, hk, rfl, hall, rfl⟩ := hrel
    by_cases hkn : k < x.length
    · obtain ⟨y, hy⟩ : ∃ y, x[k]? = some y := ⟨x[k], by simp [hkn]⟩
      obtain ⟨b, off, rfl, hc⟩ := HN.out.at_ k y hy
      have HY := hid_of hy
      have HBAD : Hid (¬ isS y → R = ([], 0, 8)) := fun hn => by
        rw [HR.out]
        exact if_neg (fun ha => hn (ha y (List.mem_of_getElem? hy)))
      clear hy
      rcases (by omega : y < -8388608 ∨ (-8388608 ≤ y ∧ 8388607 < y) ∨ (-8388608 ≤ y ∧ y ≤ 8388607)) with h1 | ⟨h1, h2⟩ | ⟨h1, h2⟩
      · have HX := hid_of (HBAD.out (by unfold isS; omega))
        go_wp2_with fail
        go_ret3
        rw [HX.out]
        exact ⟨_, rfl, OwnBytes.nil _ _, below_drewN (Below.refl _ _) d⟩
      · have HX := hid_of (HBAD.out (by unfold isS; omega))
        go_wp2_with fail
        go_ret3
        rw [HX.out]
        exact ⟨_, rfl, OwnBytes.nil _ _, below_drewN (Below.refl _ _) d⟩
      · have HA : Hid (allS (x.take (k + 1))) := by
          show allS _
          rw [take_next x k y HY.out]
          exact hall.out.snoc ⟨h1, h2⟩
        go_wp2_with fail
        exact ⟨⟨k + 1, d, by omega, by go_num, HA, rfl⟩, by (simp [intOf]) <;> omega⟩
    · have e : k = x.length := by omega
      have hS : allS x := by
        have h1 := hall.out
        rw [e, List.take_length] at h1
        exact h1
      have HS := hid_of hS
      have HRR : Hid (R = (packL x, manyN x, 0)) := by show _ = _; rw [HR.out, if_pos hS]
      have HB0 : Hid (Below w.heap.size w (w.drewN d)) := below_drewN (Below.refl _ _) d
      have HN0 : Hid (Ns (w.drewN d) a cap x) := HN.out.drewN d
      subst e
      clear hall hk hkn hS
      generalize w.drewN d = w0 at *
      obtain ⟨M, hM⟩ : ∃ M, M = min x.length 64 := ⟨_, rfl⟩
      have hM1 : 1 ≤ M := by omega
      have hM64 : M ≤ 64 := by omega
      have hMx : M ≤ x.length := by omega
      have HMN : Hid (manyN x = packM x M) := by show _ = _; rw [hM]; rfl
      rcases (by omega : (x.length ≤ 64 ∧ M = x.length) ∨ (64 < x.length ∧ M = 64)) with ⟨hc1, hc2⟩ | ⟨hc1, hc2⟩
      all_goals
        have HM2 := hid_of hc2
        clear hM hc2
        go_wp2_with fail
        go_loopw [6] (fun i wr => ∃ k : Nat, k ≤ M ∧ i = .int .i64 (k : Int) ∧ Hid (∀ j, k < j → j ≤ M → 124 < (encB (x.take j)).length) ∧ Hid (Below w.heap.size w wr)) (fun i _ => (intOf i).toNat)
        case atStart => exact ⟨M, Nat.le_refl _, by first | (rw [HM2.out]; done) | (rw [HM2.out]; rfl), fun j h1 h2 => by omega, HB0.out⟩
        case round =>
          obtain ⟨k, hk, rfl, hmost, hbr⟩ := hrel
          by_cases hk0 : 0 < k
          · obtain ⟨xs, hxs⟩ : ∃ xs, xs = x.take k := ⟨_, rfl⟩
            have HXL : Hid (xs.length = k) := by show _ = _; rw [hxs]; simp; omega
            have hXm : mayX xs := by rw [hxs]; exact may_take HS.out hk0 (by omega) (by omega)
            have HXN : Hid (Ns wr a cap xs) := by rw [hxs]; exact (HN.out.mono hbr.out).first k (by omega)
            have HSX := hid_of (shiftOf_is xs)
            obtain ⟨L, hL⟩ : ∃ L, L = encB xs := ⟨_, rfl⟩
            have HRE : Hid ((L, 0) = encOut xs (shiftOf xs)) := by show _ = _; rw [encB_out hXm, hL]
            have HL256 : Hid (∀ y ∈ L, y < 256) := by rw [hL]; exact encB_lt _
            have hLl : L.length ≤ 10000 := by rw [hL]; exact encB_len _
            have HLE : Hid (L = encB (x.take k)) := by show _ = _; rw [hL, hxs]
            have hsl := slice_ints a x.length cap k (by omega)
            have hsr : w.heap.size ≤ wr.heap.size := hbr.out.size
            clear hxs hXm hL
            go_wp2_with fail
            refine (renc_at wr (shiftOf xs) k a cap xs HXL.out HXN.out (by rw [HXL.out]; omega) HSX.out _ HRE.out).mono ?_
            rintro e w2 ⟨v2, rfl, h2, hb2⟩
            obtain ⟨la, lc, rfl, hbs⟩ := OwnBytes.bs h2
            have HBS := hid_of hbs
            have HB2 : Hid (Below w.heap.size w w2) := hbr.out.trans (hb2.mono hsr)
            have hs2 : w.heap.size ≤ w2.heap.size := HB2.out.size
            clear h2 hb2 hbs
            by_cases hfit : L.length ≤ 124
            · obtain ⟨S, hS'⟩ : ∃ S, S = sealL L := ⟨_, rfl⟩
              have HRS : Hid ((S, 0) = sealOut L) := by show _ = _; unfold sealOut; rw [if_neg (by omega), hS']
              have HFIN : Hid (R = (S, k, 0)) := by
                show _ = _
                have h1 : manyN x = k := by rw [HMN.out]; exact packM_is hk hk0 hmost.out (by rw [← HLE.out]; exact hfit)
                rw [HRR.out]
                unfold packL
                rw [h1, ← HLE.out, hS']
              clear hS'
              go_wp2_with fail
              refine (rseal_any w2 la lc L HBS.out (by omega) HL256.out _ HRS.out).mono ?_
              rintro e w3 ⟨v3, rfl, h3, hb3⟩
              have HB3 : Hid (Below w.heap.size w w3) := HB2.out.trans (hb3.mono hs2)
              have HO3 : Hid (OwnBytes w3 w.heap.size v3 S) := ownsRow_base h3 hs2
              clear h3 hb3
              go_wp2_with fail
              go_ret3
              rw [HFIN.out]
              exact ⟨_, rfl, HO3.out, HB3.out⟩
            · have HRS : Hid (([], 4) = sealOut L) := by show _ = _; unfold sealOut; rw [if_pos (by omega)]
              obtain ⟨k', hk'⟩ : ∃ k' : Nat, (k : Int) - 1 = (k' : Int) := ⟨k - 1, by omega⟩
              have HMO : Hid (∀ j, k' < j → j ≤ M → 124 < (encB (x.take j)).length) := by
                intro j h1 h2
                by_cases e : j = k
                · rw [e, ← HLE.out]; omega
                · exact hmost.out j (by omega) h2
              clear hmost
              go_wp2_with fail
              refine (rseal_any w2 la lc L HBS.out (by omega) HL256.out _ HRS.out).mono ?_
              rintro e w3 ⟨v3, rfl, h3, hb3⟩
              have HB3 : Hid (Below w.heap.size w w3) := HB2.out.trans (hb3.mono hs2)
              clear h3 hb3
              go_wp2_with fail
              exact ⟨⟨k', by omega, by first | rfl | (rw [hk']; done) | go_num, HMO, HB3⟩, by (simp [intOf]) <;> omega⟩
          · exfalso
            have h1 := hmost.out 1 (by omega) hM1
            have h2 := encB_verb (may_take HS.out (k := 1) (by decide) (by decide) (by omega))
            simp at h2
            omega

end Go.Proofs.YtejgkgnocgplbaaGreat

/- BlockPacks: the walk of the law, over the bundle of contracts. -/
namespace Go.Proofs.YtejgkgnocgplbaaGreat
set_option linter.unusedVariables false
set_option linter.unusedSimpArgs false
open Go.RowKit Dg Cr

set_option maxRecDepth 100000 in
set_option maxHeartbeats 4000000 in
theorem bpacks_any {Co : World → Nat → Nat → Nat → Nat → Nat → Prop} (C : Blk Co) (CP : PackC Co) (W : World) (a : Option Addr) (len cap : Nat) (z : List Int) (wild : Bool) (tone noise n : Int) (hr : IsRow .i64 W a len cap z) (ht : I64 tone) (hno : I64 noise) (hn : I64 n) :
    Calls Tryz.prog 5 #[.slice a len cap, .bool wild, .int .i64 tone, .int .i64 noise, .int .i64 n] W fun e W' => e = .returned (.bool true) ∧ Below W.heap.size W W' := by
  obtain ⟨l, hll, hI, hat, hle, hm, hnone, hblk⟩ := hr.ints
  subst hll
  have HA : Hid (IntsAt W a l) := hat
  have HI : Hid (∀ x ∈ l, I64 x) := hI
  have HM : Hid (l.length ≤ maxLen) := Nat.le_trans hle hm
  obtain ⟨N, hN⟩ : ∃ N : Nat, n % 65 = (N : Int) := ⟨(n % 65).toNat, by omega⟩
  have HN := hid_of hN
  have hN64 : N ≤ 64 := by omega
  have HTI := hid_of ht
  have HNO := hid_of hno
  have HNI := hid_of hn
  clear hat hI hle hm hnone hblk hr hN ht hno hn
  have hcase : (Int.tmod tone 3 != 0) = false ∨ (Int.tmod tone 3 != 0) = true := by cases (Int.tmod tone 3 != 0) <;> simp
  rcases hcase with hb | hb
  all_goals
    go_enter Tryz.func5, Tryz.ntmps5
    go_wp2_with fail
  refine (samples_any W a cap 80 l wild HA.out HM.out HI.out (by decide)).mono ?_
  rintro e w1 ⟨v1, xs, rfl, hv1, hxl', -, -, hb1⟩
  have hxl : xs.length ≤ 80 := by omega
  clear hxl'
  rotate_left
  refine (tone_any W a cap l n tone noise N HA.out HM.out HI.out HNI.out HTI.out HNO.out HN.out).mono ?_
  rintro e w1 ⟨v1, xs, rfl, hv1, hxl', -, hb1⟩
  have hxl : xs.length ≤ 80 := by omega
  clear hxl'
  all_goals
    obtain ⟨a1, c1, rfl, hn1, -, -⟩ := hv1.ns
    have HB1 := hid_of hb1
    have HN1 := hid_of hn1
    have HLT := hid_of hn1.lt
    have hs1 : W.heap.size ≤ w1.heap.size := hb1.size
    clear hv1 hb1 hn1 HA HI HM HN HNI HTI HNO hb
    obtain ⟨⟨L, mm, k⟩, hR⟩ : ∃ R, R = packOut xs := ⟨_, rfl⟩
    have HR := hid_of hR
    have hLl : L.length ≤ 128 := by
      have := packOut_len xs
      rw [← hR] at this
      exact this
    have hkk : (k == k) = true := by simp
    have hmm : ((mm : Int) == (mm : Int)) = true := by simp
    clear hR
    go_wp2_with fail
    refine (C.newB w1).mono ?_
    rintro e w2 ⟨b, top, rfl, hco2, hb2⟩
    have HCO2 := hid_of hco2
    have HN2 := hid_of (HN1.out.mono hb2)
    have HB2 : Hid (Below W.heap.size W w2) := HB1.out.trans (hb2.mono hs1)
    have hs2 : W.heap.size ≤ w2.heap.size := HB2.out.size
    have hs12 : w1.heap.size ≤ w2.heap.size := hb2.size
    have HFAR : Hid (xs ≠ [] → ∀ y, a1 = some y → ¬ InCo w1.heap.size top y.block) := fun h y hy hf => by have := HLT.out h y hy; have := hf.1; omega
    clear hco2 hb2 HN1 HB1
    go_wp2_with fail
    refine (CP w2 b _ top 0 0 a1 c1 xs _ HCO2.out HN2.out HFAR.out (by omega) (by decide) HR.out).mono ?_
    rintro e w3 ⟨v3, rfl, h3, -, hk3⟩
    have HO3 := hid_of h3
    have HN3 := hid_of (HN2.out.kept hk3 HFAR.out)
    have HB3 := hid_of (co_below HB2.out hk3 hs1)
    have hs3 : W.heap.size ≤ w3.heap.size := HB3.out.size
    clear h3 hk3 HCO2 HN2 HB2
    go_wp2_with fail
    refine (rpack_any w3 a1 c1 xs HN3.out (by omega) _ HR.out).mono ?_
    rintro e w4 ⟨v4, rfl, h4, hb4⟩
    have HS4 : Hid (SlAt w4 v4 L) := SlAt.of_owns h4
    have HT4 : Hid (SlAt w4 v3 L) := (SlAt.of_owns HO3.out).below hb4
    have HB4 : Hid (Below W.heap.size W w4) := HB3.out.trans (hb4.mono hs3)
    have hs4 : W.heap.size ≤ w4.heap.size := HB4.out.size
    clear h4 hb4 HO3 HN3 HB3
    go_wp2_with fail
    refine (same_any w4 v3 v4 L HT4.out HS4.out (by omega)).mono ?_
    rintro e w5 ⟨rfl, n5, rfl⟩
    go_wp2_with fail
    refine (wakes9_any C _).mono ?_
    rintro e w6 ⟨rfl, hb6⟩
    have HB6 : Hid (Below W.heap.size W w6) := (below_drewN HB4.out n5).trans (hb6.mono hs4)
    clear hb6
    go_wp2
    go_ret
    exact ⟨rfl, HB6.out⟩

end Go.Proofs.YtejgkgnocgplbaaGreat

/- The document's own Whole, Open. -/
namespace Go.Proofs.YtejgkgnocgplbaaGreat
set_option linter.unusedVariables false
set_option linter.unusedSimpArgs false
open Go.RowKit Dg Cr

def ints (l : List Nat) : List Int := l.map fun x : Nat => (x : Int)
/-- string(b) of bytes that can be read. -/
theorem str_of (w : World) (a : Option Addr) (n cap : Nat) (l : List Nat) (hn : l.length = n) (h0 : 1 ≤ n) (h : SlAt w (.slice a n cap) l) : (convert 27 9 (.slice a n cap)).run Tryz.prog w = .ok (.string (strOfNums (ints l))) w := by
  obtain ⟨x, hx⟩ : ∃ x, l[0]? = some x := ⟨l[0]'(by omega), by simp⟩
  subst hn
  obtain ⟨ao, cc, e, hc⟩ := h
  cases e
  obtain ⟨b, off, rfl, -⟩ := hc 0 x hx
  refine run_convert_bytes_arg w 27 5 Tryz.underlying27 Tryz.underlying5 b off l.length cap (ints l) (by simp [ints]) (fun i hi => ?_) 9 Tryz.underlying9
  obtain ⟨y, hy⟩ : ∃ y, l[i]? = some y := ⟨l[i]'(by omega), by simp⟩
  obtain ⟨b', off', e', hc'⟩ := hc i y hy
  cases e'
  rw [hc']
  have : (ints l).getD i 0 = (y : Int) := by simp [ints, List.getD, hy]
  rw [this]
theorem rsummed_at (w : World) (a : Option Addr) (cap k n : Nat) (l : List Nat) (hk : l.length = k) (h : Bs w a cap l) (hl : l.length ≤ 500) (hn : n ≤ 500) (h256 : ∀ x ∈ l, x < 256) (F S : List Nat) (hF : F = l ++ List.replicate (n - l.length) 0) (hS : S = F ++ bytes4 (sumN F)) (I : Int) (hI : I = (n : Int)) :
    Calls Tryz.prog 39 #[.slice a k cap, .int .i64 I] w fun e w' => ∃ g c, e = .returned (.slice (some ⟨g, 0, none⟩) S.length c) ∧ OwnBytes w' w.heap.size (.slice (some ⟨g, 0, none⟩) S.length c) S ∧ Below w.heap.size w w' := by
  subst hk hI
  exact rsummed_any w a cap n l h hl hn h256 F S hF hS
theorem str_list (l : List Nat) : (strOfNums (ints l)).toList = l.map fun x => UInt8.ofNat x := by
  rw [ByteArray.toList_eq, strOfNums_data]
  unfold ints
  rw [List.map_map]
  rfl
theorem str_inj {l m : List Nat} (hl : ∀ x ∈ l, x < 256) (hm : ∀ x ∈ m, x < 256) (h1 : (strOfNums (ints l)).toList = (strOfNums (ints m)).toList) : l = m := by
  rw [str_list, str_list] at h1
  refine List.ext_getElem? (fun i => ?_)
  have h2 := congrArg (fun q : List UInt8 => q[i]?) h1
  simp only [List.getElem?_map] at h2
  cases e1 : l[i]? with
  | none =>
    rw [e1] at h2
    cases e2 : m[i]? with
    | none => rfl
    | some y => rw [e2] at h2; cases h2
  | some x =>
    rw [e1] at h2
    cases e2 : m[i]? with
    | none => rw [e2] at h2; cases h2
    | some y =>
      rw [e2] at h2
      have h3 := Option.some.inj h2
      have hx := hl x (List.mem_of_getElem? e1)
      have hy := hm y (List.mem_of_getElem? e2)
      have h4 := congrArg UInt8.toNat h3
      simp at h4
      have : x = y := by omega
      rw [this]
theorem Bs.first {w : World} {a : Option Addr} {cap : Nat} {l : List Nat} (h : Bs w a cap l) (k : Nat) (hk : k ≤ l.length) : Bs w a cap (l.take k) := by
  have hkl : (l.take k).length = k := by simp; omega
  refine ⟨?_, by have := h.le; omega, h.nil⟩
  rw [hkl]
  exact h.hi k hk
set_option maxRecDepth 100000 in
set_option maxHeartbeats 4000000 in
theorem rwhole_any (w : World) (a : Option Addr) (cap : Nat) (l : List Nat) (h : Bs w a cap l) (hl : l.length ≤ 100000) (h256 : ∀ x ∈ l, x < 256) (t : Bool) (ht : t = decide (wholeP l)) :
    Calls Tryz.prog 21 #[.slice a l.length cap] w fun e w' => e = .returned (.bool t) ∧ Below w.heap.size w w' := by
  have HB := hid_of h
  have H256 := hid_of h256
  by_cases h128 : l.length = 128
  case neg =>
    have hb : ((l.length : Int) == 128) = false := beq_eq_false_iff_ne.2 (by omega)
    have et : t = false := by rw [ht]; exact decide_eq_false (fun h => h128 h.1)
    subst et
    clear h h256 ht h128
    go_enter Tryz.func21, Tryz.ntmps21
    go_wp2_with fail
    go_quiet (fail)
    go_wp2_with fail
    go_ret
    exact ⟨rfl, below_drewN (Below.refl _ _) nq⟩
  case pos =>
    obtain ⟨T, hT⟩ : ∃ T, T = l.take 124 := ⟨_, rfl⟩
    obtain ⟨S, hS⟩ : ∃ S, S = T ++ bytes4 (sumN T) := ⟨_, rfl⟩
    have hTl : T.length = 124 := by rw [hT]; simp; omega
    have HTL := hid_of hTl
    have HSL : Hid (S.length = 128) := by show _ = _; rw [hS]; simp; omega
    have hle := h.le
    have hsl : ∀ W : World, (Instr.sliceAt 27 (.slice a 128 cap) none (some (.int .i64 124)) none).run Tryz.prog W = .ok (.slice a 124 cap) W := fun W => slice_hi a 128 cap 124 (by omega) W
    have HT256 : Hid (∀ x ∈ T, x < 256) := by rw [hT]; exact fun x hx => h256 x (List.mem_of_mem_take hx)
    have HS256 : Hid (∀ x ∈ S, x < 256) := by
      intro x hx
      rw [hS] at hx
      rcases List.mem_append.1 hx with h1 | h1
      · exact HT256.out x h1
      · exact bytes4_lt _ x h1
    obtain ⟨q, hq⟩ : ∃ q, q = ((strOfNums (ints S)).toList == (strOfNums (ints l)).toList) := ⟨_, rfl⟩
    have HQ : Hid (((strOfNums (ints S)).toList == (strOfNums (ints l)).toList) = q) := hq.symm
    have et : t = q := by
      rw [ht, hq]
      by_cases hw : wholeP l
      · have e : S = l := by
          rw [hS, hT]
          have h1 := hw.2
          rw [← h1, List.take_append_drop]
        rw [decide_eq_true hw, e]
        simp
      · rw [decide_eq_false hw]
        symm
        refine beq_eq_false_iff_ne.2 (fun e => hw ?_)
        have e2 := str_inj HS256.out h256 e
        refine ⟨h128, ?_⟩
        rw [← hT, ← e2, hS]
        rw [List.drop_left' hTl]
    subst et
    have HTB : Hid (∀ wx, Below w.heap.size w wx → Bs wx a cap T) := fun wx hb => by rw [hT]; exact (h.below hb).first 124 (by omega)
    have HSTR : Hid (∀ wx, Below w.heap.size w wx → (convert 27 9 (.slice a 128 cap)).run Tryz.prog wx = .ok (.string (strOfNums (ints l))) wx) := fun wx hb => by
      have h1 := (h.below hb).at_
      rw [h128] at h1
      exact str_of wx a 128 cap l h128 (by decide) h1
    have HF : Hid (T = T ++ List.replicate (0 - T.length) 0) := by show _ = _; simp
    have HS := hid_of hS
    rw [h128]
    have hcv0 := HSTR.out w.drew ((Below.refl _ _).drew)
    clear h h256 ht hT hS hq hTl h128 hle
    go_enter Tryz.func21, Tryz.ntmps21
    go_wp2_with fail
    go_region_with (go_at_call 39; refine (rsummed_at w.drew a cap 124 0 T HTL.out (HTB.out _ ((Below.refl _ _).drew)) (by rw [HTL.out]; decide) (by decide) HT256.out T S HF.out HS.out _ rfl).mono ?_; rintro e w1 ⟨g, c, rfl, ho, hb⟩; have HB1 : Hid (Below w.heap.size w w1) := ((Below.refl _ _).drew).trans hb; have hcv1 := HSTR.out w1 HB1.out; have hcv2 := str_of w1 (some ⟨g, 0, none⟩) S.length c S rfl (by rw [HSL.out]; decide) (SlAt.of_owns ho); clear ho hb)
    all_goals (try go_wp2_with fail)
    all_goals go_ret
    all_goals rw [← HQ.out]
    all_goals exact ⟨rfl, HB1.out⟩

theorem rdec_at (w : World) (v : Value) (l : List Nat) (h : SlAt w v l) (hl : l.length ≤ 1000000) (hby : ∀ x ∈ l, x < 256) (R : List Int × Int) (hR : R = decOut 2 l) :
    Calls Tryz.prog 41 #[v] w fun e w' => Gave w w' R e := rdec_any w v l h hl hby R hR
set_option maxRecDepth 100000 in
set_option maxHeartbeats 4000000 in
theorem ropen_any (w : World) (a : Option Addr) (cap : Nat) (l : List Nat) (h : Bs w a cap l) (hl : l.length ≤ 100000) (h256 : ∀ x ∈ l, x < 256) (R : List Int × Int) (hR : R = openOut l) :
    Calls Tryz.prog 20 #[.slice a l.length cap] w fun e w' => Gave w w' R e := by
  have HB := hid_of h
  have H256 := hid_of h256
  unfold openOut at hR
  by_cases hw : wholeP l
  · rw [if_pos hw] at hR
    have HR := hid_of hR
    have HW : Hid (true = decide (wholeP l)) := (decide_eq_true hw).symm
    have h128 : l.length = 128 := hw.1
    have hle := h.le
    have hsl : ∀ W : World, (Instr.sliceAt 27 (.slice a 128 cap) none (some (.int .i64 124)) none).run Tryz.prog W = .ok (.slice a 124 cap) W := fun W => slice_hi a 128 cap 124 (by omega) W
    have HS : Hid (SlAt w (.slice a 124 cap) (l.take 124)) := h.hi 124 (by omega)
    have HT256 : Hid (∀ x ∈ l.take 124, x < 256) := fun x hx => h256 x (List.mem_of_mem_take hx)
    have htl : (l.take 124).length ≤ 1000000 := by rw [List.length_take]; omega
    have HC : Hid (∀ W : World, Bs W a cap l → Calls Tryz.prog 21 #[.slice a 128 cap] W fun e w' => e = .returned (.bool true) ∧ Below W.heap.size W w') := fun W hW => by
      have h1 := rwhole_any W a cap l hW hl h256 true HW.out
      rw [h128] at h1
      exact h1
    rw [h128]
    clear h h256 hR hw h128 hle
    go_enter Tryz.func20, Tryz.ntmps20
    go_wp2_with fail
    refine (HC.out w HB.out).mono ?_
    rintro e w1 ⟨rfl, hb1⟩
    have HB1 := hid_of hb1
    have HS1 := hid_of (HS.out.below hb1)
    have hs1 : w.heap.size ≤ w1.heap.size := hb1.size
    clear hb1
    go_wp2_with fail
    refine (rdec_at w1 _ _ HS1.out htl HT256.out _ HR.out).mono ?_
    rintro e w2 ⟨v2, rfl, h2, hb2⟩
    have H2 := hid_of (h2.base hs1)
    have HB2 : Hid (Below w.heap.size w w2) := HB1.out.trans (hb2.mono hs1)
    clear h2 hb2
    go_wp2_with fail
    go_ret2
    exact ⟨v2, rfl, H2.out, HB2.out⟩
  · rw [if_neg hw] at hR
    have HR := hid_of hR
    have HW : Hid (false = decide (wholeP l)) := (decide_eq_false hw).symm
    clear h h256 hR hw
    go_enter Tryz.func20, Tryz.ntmps20
    go_wp2_with fail
    refine (rwhole_any w a cap l HB.out hl H256.out false HW.out).mono ?_
    rintro e w1 ⟨rfl, hb1⟩
    have HB1 := hid_of hb1
    clear hb1
    go_wp2_with fail
    go_ret2
    exact Gave.none HR.out HB1.out

end Go.Proofs.YtejgkgnocgplbaaGreat

/- A slice of rows of bytes that came in, as the walks want it. -/
namespace Go.Proofs.YtejgkgnocgplbaaGreat
set_option linter.unusedVariables false
set_option linter.unusedSimpArgs false
open Go.ChangeShapes Go.WideShapes Go.ChangeAt Go.RowKit Go.Deep

/-- Rows of bytes that can be read. -/
def RowsAt (w : World) (a : Option Addr) (len : Nat) (A : Nat → Option Addr) (L C : Nat → Nat) (Z : Nat → List Int) : Prop :=
  ∀ r, r < len → ∃ b off, a = some ⟨b, off, none⟩ ∧ b < w.heap.size ∧ w.cell? ⟨b, off + r, none⟩ = some (.slice (A r) (L r) (C r)) ∧ IsRow .u8 w (A r) (L r) (C r) (Z r)

theorem Tryz.cellsB : Tryz.prog.cellsOf 27 = 1 := by kernel_rfl
theorem Tryz.cells5 : Tryz.prog.cellsOf 5 = 1 := by kernel_rfl
theorem open_rows {H : Type} {enc : TypeId × Value → H} {W : World} {a : Option Addr} {len cap : Nat} {d : DataW H} {p : List MemPlace}
    (h : DataW.Trod enc Tryz.prog W 0 (fun _ => true) true 38 (.slice a len cap) d p) : ∃ A L C Z, len ≤ maxLen ∧ RowsAt W a len A L C Z := by
  obtain ⟨fuel, hf⟩ := h
  rcases open_int_rows Tryz.underlying38 Tryz.underlying27 Tryz.underlying5 Tryz.cellsB Tryz.cells5 hf with ⟨hcs, _⟩ | ⟨x, l, c, A, L, C, Z, hcs, _, hl, hm, _, hrow⟩
  · simp [Value.cells] at hcs
    obtain ⟨rfl, rfl, rfl⟩ := hcs
    exact ⟨fun _ => none, fun _ => 0, fun _ => 0, fun _ => [], by decide, fun r hr => by omega⟩
  · simp [Value.cells] at hcs
    obtain ⟨rfl, rfl, rfl⟩ := hcs
    refine ⟨A, L, C, Z, by omega, fun r hr => ?_⟩
    obtain ⟨h1, h2, h3, h4, h5, h6, h7⟩ := hrow r (by omega)
    have hsp : x.spot = none := by
      have := spot_of_cell (hrow 0 (by omega)).1
      simpa [Addr.add] using this
    obtain ⟨b, off, s⟩ := x
    simp at hsp
    subst hsp
    have hadd : (⟨b, off, none⟩ : Addr).add r = ⟨b, off + r, none⟩ := by simp [Addr.add]
    rw [hadd] at h1
    refine ⟨b, off, rfl, World.block_lt_of_cell? W _ h1, h1, ?_⟩
    cases hA : A r with
    | none =>
      have hC := h6 hA
      have hL : L r = 0 := by omega
      have hZ : Z r = [] := List.eq_nil_of_length_eq_zero (by omega)
      rw [hC, hL, hZ]
      exact .inl ⟨rfl, rfl, rfl, rfl⟩
    | some x' =>
      obtain ⟨_, hcell⟩ := h7 x' hA
      exact .inr ⟨x', rfl, h2, h3, h4, fun i hi => hcell i (by omega), h5⟩

end Go.Proofs.YtejgkgnocgplbaaGreat
