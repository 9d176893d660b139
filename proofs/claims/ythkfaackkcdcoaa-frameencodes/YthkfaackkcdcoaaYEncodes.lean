/- FrameEncodes: the walk of the law. -/
import Derived.Test.YthkfaackkcdcoaaPart13
import Derived.Test.YthkfaackkcdcoaaPart08
namespace Go.Proofs.Ythkfaackkcdcoaa
set_option linter.unusedVariables false
set_option linter.unusedSimpArgs false
open Go.RowKit Dg

theorem encOut_len (x : List Int) (s : Nat) : (encOut x s).1.length ≤ 10000 := by
  unfold encOut
  split
  · simp
  · split
    · have := bestF_len x s 19
      simp
      omega
    · simp
theorem own_row {w : World} {base g : Nat} {l : List Nat} (h : OwnBytes w base (.slice (some ⟨g, 0, none⟩) l.length l.length) l) : RowIs w g (u8s l) := by
  rcases h.2 with ⟨e1, _⟩ | ⟨g', cap', cur, hv, hgb, hh, hncap, _, hcs, htake⟩
  · cases e1
  · cases hv
    have hce : cur.toList = u8s l := by rw [← htake]; exact (List.take_of_length_le (by simp; omega)).symm
    unfold RowIs
    rw [← hce]
    simpa using hh
set_option maxHeartbeats 1000000 in
theorem spoil_nil (w : World) :
    Calls Try.prog 23 #[.slice none 0 0] w fun e w' => e = .returned (.tuple #[]) ∧ w = w' := by
  go_enter Try.func23, Try.ntmps23
  go_wp2
  go_loopw [10] (fun i wr => i = .int .i64 0 ∧ w = wr) (fun i _ => 0)
  case atStart => exact ⟨rfl, rfl⟩
  case round =>
    obtain ⟨rfl, rfl⟩ := hrel
    go_wp2
    go_end0
    exact ⟨rfl, rfl⟩
theorem spoil_full (w : World) (base : Nat) (v : Value) (l : List Nat) (ho : OwnBytes w base v l) (hf : FullB v l.length) (hl : l.length ≤ 1000000) :
    Calls Try.prog 23 #[v] w fun e w' => e = .returned (.tuple #[]) ∧ Kept (fun k => base ≤ k) w w' := by
  rcases hf with ⟨rfl, -⟩ | ⟨g, rfl⟩
  · refine (spoil_nil w).mono ?_
    rintro e w' ⟨rfl, rfl⟩
    exact ⟨rfl, Kept.refl _ _⟩
  · refine (spoil_at w g l (own_row ho) hl).mono ?_
    rintro e w' ⟨rfl, hk⟩
    have hg := (World.ownsRow.lt ho g rfl).1
    exact ⟨rfl, hk.mono (fun i _ hi => by show base ≤ i; omega)⟩
theorem OwnInts.keep {w w' : World} {base B : Nat} {v : Value} {l : List Int} (h : OwnInts w base v l) (hk : Kept (fun k => B ≤ k) w w') (hB : ∀ k, v.ownBlock = some k → k < B) : OwnInts w' base v l :=
  ownsRow_other h hk (fun k hk' hf => by have := hB k hk'; omega)

set_option maxRecDepth 100000 in
set_option maxHeartbeats 4000000 in
theorem yenc_any (W : World) (a : Option Addr) (len cap : Nat) (z : List Int) (wild : Bool) (tone noise n : Int) (hr : IsRow .i64 W a len cap z) (ht : I64 tone) (hno : I64 noise) (hn : I64 n) :
    Calls Try.prog 8 #[.slice a len cap, .bool wild, .int .i64 tone, .int .i64 noise, .int .i64 n] W fun e W' => e = .returned (.bool true) ∧ Below W.heap.size W W' := by
  obtain ⟨l, hll, hI, hat, hle, hm, hnone, hblk⟩ := hr.ints
  subst hll
  have HA : Hid (IntsAt W a l) := hat
  have HI : Hid (∀ x ∈ l, I64 x) := hI
  have HM : Hid (l.length ≤ maxLen) := Nat.le_trans hle hm
  obtain ⟨N, hN⟩ : ∃ N : Nat, n % 65 = (N : Int) := ⟨(n % 65).toNat, by omega⟩
  have HN := hid_of hN
  have hN64 : N ≤ 64 := by omega
  have HTI := hid_of ht
  have HNO := hid_of hno
  have HNI := hid_of hn
  clear hat hI hle hm hnone hblk hr hN ht hno hn
  have hcase : (Int.tmod tone 3 != 0) = false ∨ (Int.tmod tone 3 != 0) = true := by cases (Int.tmod tone 3 != 0) <;> simp
  rcases hcase with hb | hb
  all_goals
    go_enter Try.func8, Try.ntmps8
    go_wp2_with fail
  refine (samples_any W a cap 66 l wild HA.out HM.out HI.out (by decide)).mono ?_
  rintro e w1 ⟨v1, xs, rfl, hv1, hxl', -, -, hb1⟩
  have hxl : xs.length ≤ 66 := by omega
  clear hxl'
  rotate_left
  refine (tone_any W a cap l n tone noise N HA.out HM.out HI.out HNI.out HTI.out HNO.out HN.out).mono ?_
  rintro e w1 ⟨v1, xs, rfl, hv1, hxl', -, hb1⟩
  have hxl : xs.length ≤ 66 := by omega
  clear hxl'
  all_goals
    obtain ⟨a1, c1, rfl, hn1, hnil1, -⟩ := hv1.ns
    have HV1 := hid_of hv1
    have HB1 := hid_of hb1
    have HN1 := hid_of hn1
    have HNIL1 := hid_of hnil1
    have hs1 : W.heap.size ≤ w1.heap.size := hb1.size
    clear hv1 hb1 hn1 hnil1 HA HI HM HN HNI HTI HNO
    obtain ⟨s, hs⟩ := shift_may xs
    have HS := hid_of hs
    obtain ⟨⟨L, k⟩, hR⟩ : ∃ R, R = encOut xs s := ⟨_, rfl⟩
    have HR := hid_of hR
    have hLl : L.length ≤ 10000 := by
      have := encOut_len xs s
      rw [← hR] at this
      exact this
    clear hs hR
    go_wp2_with fail
    refine (copyInt_any w1 a1 c1 xs HN1.out.at_ (by omega) HNIL1.out).mono ?_
    rintro e w2 ⟨v2, rfl, hv2, hb2⟩
    obtain ⟨a2, c2, rfl, hn2, -, -⟩ := hv2.ns
    have HN2 := hid_of hn2
    have HX2 := hid_of (HN1.out.mono hb2)
    have HB2 : Hid (Below W.heap.size W w2) := HB1.out.trans (hb2.mono hs1)
    have hs2 : W.heap.size ≤ w2.heap.size := HB2.out.size
    have HV2 := hid_of hv2
    have HW2 := hid_of (HV1.out.mono hb2)
    clear hv2 hb2 hn2 HV1 HN1 HNIL1 HB1
    go_wp2_with fail
    refine (fenc_full w2 s a2 c2 xs HN2.out (by omega) HS.out _ HR.out).mono ?_
    rintro e w3 ⟨v3, rfl, h3, hf3, hb3⟩
    have HO3 := hid_of h3
    have HF3 : Hid (FullB v3 L.length) := hf3
    have HB3 : Hid (Below W.heap.size W w3) := HB2.out.trans (hb3.mono hs2)
    have hs3 : W.heap.size ≤ w3.heap.size := HB3.out.size
    have hs23 : w2.heap.size ≤ w3.heap.size := hb3.size
    have HV3 := hid_of (HV2.out.mono hb3)
    have HW3 := hid_of (HW2.out.mono hb3)
    have HX3 := hid_of (HX2.out.mono hb3)
    have HLT2 : Hid (∀ k, (Value.slice a2 xs.length c2).ownBlock = some k → k < w2.heap.size) := fun k hk => (World.ownsRow.lt HV2.out k hk).2
    have HLT1 : Hid (∀ k, (Value.slice a1 xs.length c1).ownBlock = some k → k < w2.heap.size) := fun k hk => (World.ownsRow.lt HW2.out k hk).2
    clear h3 hf3 hb3 HN2 HB2 HV2 HW2 HX2
    go_wp2_with fail
    refine (renc_any w3 s a1 c1 xs HX3.out (by omega) HS.out _ HR.out).mono ?_
    rintro e w4 ⟨v4, rfl, h4, hb4⟩
    have HS4 : Hid (SlAt w4 v4 L) := SlAt.of_owns h4
    have HO4 : Hid (OwnBytes w4 w2.heap.size v3 L) := ownsRow_other (F := fun _ => False) HO3.out (Kept.of_below hb4) (fun _ _ h => h)
    have HB4 : Hid (Below W.heap.size W w4) := HB3.out.trans (hb4.mono hs3)
    have hs4 : W.heap.size ≤ w4.heap.size := HB4.out.size
    have hs24 : w2.heap.size ≤ w4.heap.size := Nat.le_trans hs23 hb4.size
    have HV4 := hid_of (HV3.out.mono hb4)
    have HW4 := hid_of (HW3.out.mono hb4)
    clear h4 hb4 HO3 HB3 HV3 HW3 HX3
    have hkk : (k == k) = true := by simp
    go_wp2_with fail
    refine (same_any w4 v3 v4 L (SlAt.of_owns HO4.out) HS4.out (by omega)).mono ?_
    rintro e w5 ⟨rfl, n5, rfl⟩
    have HO5 : Hid (OwnBytes (w4.drewN n5) w2.heap.size v3 L) := HO4.out
    have HB5 : Hid (Below W.heap.size W (w4.drewN n5)) := below_drewN HB4.out n5
    have HV5 := hid_of (HV4.out.drewN n5)
    have HW5 := hid_of (HW4.out.drewN n5)
    have hs5 : W.heap.size ≤ (w4.drewN n5).heap.size := hs4
    have hs25 : w2.heap.size ≤ (w4.drewN n5).heap.size := hs24
    clear HO4 HB4 HV4 HW4 HS4
    generalize w4.drewN n5 = w5 at *
    go_wp2_with fail
    refine (spoil_full w5 w2.heap.size v3 L HO5.out HF3.out (by omega)).mono ?_
    rintro e w6 ⟨rfl, hk6⟩
    have HV6 : Hid (IntsAt w6 a2 xs) := (HV5.out.keep hk6 HLT2.out).at
    have HW6 : Hid (IntsAt w6 a1 xs) := (HW5.out.keep hk6 HLT1.out).at
    have HB6 : Hid (Below W.heap.size W w6) := hk6.below_of HB5.out (fun k hk => Nat.le_trans hs2 hk) hs5
    have hs6 : W.heap.size ≤ w6.heap.size := HB6.out.size
    clear hk6 HV5 HW5 HB5 HO5
    go_wp2_with fail
    refine (sameInt_any w6 a1 a2 c1 c2 xs HW6.out HV6.out (by omega)).mono ?_
    rintro e w7 ⟨rfl, n7, rfl⟩
    go_wp2_with fail
    refine (wakes8_any _).mono ?_
    rintro e w8 ⟨rfl, hb8⟩
    have HB8 : Hid (Below W.heap.size W w8) := (below_drewN HB6.out n7).trans (hb8.mono hs6)
    clear hb8
    go_wp2
    go_ret
    exact ⟨rfl, HB8.out⟩

end Go.Proofs.Ythkfaackkcdcoaa
