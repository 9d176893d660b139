/- BitsLimits: the walk of the law. -/
import Derived.Test.YtkloocfceghddaaRow
namespace Go.Proofs.Ytkloocfceghddaa
set_option linter.unusedVariables false
set_option linter.unusedSimpArgs false
open Go.RowKit Dg

set_option maxHeartbeats 4000000 in
theorem limits_any (w : World) (v n : Int) (a : Option Addr) (len cap : Nat) (zs : List Int) (hn1 : -9223372036854775808 ≤ n) (hn2 : n ≤ 9223372036854775807) (hr : IsRow .u8 w a len cap zs) :
    Calls Try.prog 4 #[.int .i64 v, .int .i64 n, .slice a len cap] w fun e w' => e = .returned (.bool true) ∧ Below w.heap.size w w' := by
  obtain ⟨l0, hl0, hl256, hsl⟩ := hr.bytes
  have hcut : len ≤ cap ∧ cap ≤ maxLen ∧ (a = none → len = 0 ∧ cap = 0) := by
    rcases hr with ⟨rfl, rfl, rfl, rfl⟩ | ⟨x, rfl, hle, hm, hz, hc, hwf⟩
    · exact ⟨Nat.le_refl _, by decide, fun _ => ⟨rfl, rfl⟩⟩
    · exact ⟨hle, hm, fun h => by cases h⟩
  obtain ⟨hc1, hc2, hc3⟩ := hcut
  obtain ⟨l, hl⟩ : ∃ l, l = l0.take (min len 20) := ⟨_, rfl⟩
  have hll : l.length = min len 20 := by rw [hl]; simp; omega
  have H256 : Hid (∀ x ∈ l, x < 256) := by rw [hl]; exact fun x hx => hl256 x (List.mem_of_mem_take hx)
  have HS : Hid (SlAt w (.slice a l.length cap) l) := by rw [hll, hl]; exact hsl _ (by omega)
  have HC3 : Hid (a = none → len = 0 ∧ cap = 0) := hc3
  have HLL : Hid (min len 20 = l.length) := hll.symm
  have hl20 : l.length ≤ 20 := by omega
  clear hl hl0 hl256 hsl hr hll hc3
  go_enter Try.func4, Try.ntmps4
  go_wp2_with fail
  refine (cut_any w a len cap 20 (by decide) hc1 hc2 HC3.out).mono ?_
  rintro e w0 ⟨rfl, rfl⟩
  rw [HLL.out]
  go_wp2_with fail
  refine (newWriter_any _).mono ?_
  rintro e w1 ⟨rfl, hwa1, hb1, hs1⟩
  have HA1 : Hid (WrAt w1 w.heap.size (.slice none 0 0) []) := hwa1
  have HB1 : Hid (Below w.heap.size w w1) := hb1
  clear hwa1 hb1
  go_wp2_with fail
  refine (newReader_any w1 _ l (HS.out.below HB1.out) (by omega) H256.out).mono ?_
  rintro e w2 ⟨r, rfl, hr, hrd, hb2⟩
  obtain ⟨rvr, hrvr⟩ : ∃ rvr : Value, rvr = .slice (some ⟨w1.heap.size, 0, none⟩) l.length l.length := ⟨_, rfl⟩
  rw [← hrvr] at hrd
  have FR : Hid (∀ k, rvr.ownBlock = some k → k = w1.heap.size) := by rw [hrvr]; intro k hk; simp [Value.ownBlock] at hk; omega
  have HR2 : Hid (RdAt w2 r rvr l 0) := hrd
  have HA2 : Hid (WrAt w2 w.heap.size (.slice none 0 0) []) := HA1.out.below hb2
  have HB2 : Hid (Below w.heap.size w w2) := HB1.out.trans (hb2.mono (by omega))
  have hs2 : w1.heap.size ≤ w2.heap.size := hb2.size
  have hr2 : r < w2.heap.size := hrd.lt
  clear hrd hb2 hrvr HA1 HB1
  go_wp2_with fail
  refine (put_at w2 w.heap.size _ [] v 3 HA2.out (by decide) (by decide) _ rfl).mono ?_
  rintro e w3 ⟨rfl, rv3, hw3, hk, hn⟩
  have HA3 : Hid (WrAt w3 w.heap.size rv3 ([] ++ dig v 3)) := hw3
  have FA : Hid (∀ k, Wf w.heap.size rv3 k → k = w.heap.size ∨ (w2.heap.size ≤ k ∧ k < w3.heap.size)) := by
    rintro k (h | h)
    · exact Or.inl h
    · rcases hn k h with h' | h'
      · simp [Value.ownBlock] at h'
      · exact Or.inr ⟨h', (hw3.own.lt k h).2⟩
  have HR3 : Hid (RdAt w3 r rvr l 0) := HR2.out.kept hk (fun h => by have := Wf_nil h; omega) (fun k h h' => by have := FR.out k h; have := Wf_nil h'; omega)
  have HB3 : Hid (Below w.heap.size w w3) := hk.below_of HB2.out (fun k h => by have := Wf_nil h; omega) (by omega)
  have hs3 : w2.heap.size ≤ w3.heap.size := hk.size
  clear hw3 hk hn HA2 HB2 HR2
  have hlen3 : ([] ++ dig v 3).length = 3 := by simp
  have hcases : n < 0 ∨ (0 ≤ n ∧ 62 < n) ∨ (0 ≤ n ∧ n ≤ 62 ∧ n ≤ 8 * (l.length : Int)) ∨ (0 ≤ n ∧ n ≤ 62 ∧ 8 * (l.length : Int) < n) := by omega
  rcases hcases with hbad | ⟨hb0, hbad⟩ | ⟨hb0, hb62, hfit⟩ | ⟨hb0, hb62, hfew⟩
  · go_wp2_with (first
      | (go_at_call 11; refine (put_bad _ _ v n (by omega)).mono ?_; rintro e w4 ⟨rfl, rfl⟩)
      | (go_at_call 14; refine (get_bad _ _ n (by omega)).mono ?_; rintro e w4 ⟨rfl, rfl⟩)
      | (go_at_call 18; refine (len_any _ _ rv3 _ (by first | exact HA3.out | exact HA3.out.drew | exact HA3.out.drew.drew)).mono ?_; rintro e w4 ⟨rfl, rfl⟩)
      | (go_at_call 19; refine (left_any _ r rvr l 0 (by first | exact HR3.out | exact HR3.out.drew)).mono ?_; rintro e w4 ⟨rfl, rfl⟩)
      | (go_at_call 20; refine (ones_bad _ _ _ (by decide)).mono ?_; rintro e w4 ⟨rfl, rfl⟩)
      | (go_at_call 16; refine (wakes_any _).mono ?_; rintro e w4 ⟨rfl, hb4⟩))
    go_ret
    exact ⟨rfl, HB3.out.drew.drew.trans (hb4.mono (by show w.heap.size ≤ w3.heap.size; omega))⟩
  · go_wp2_with (first
      | (go_at_call 11; refine (put_bad _ _ v n (by omega)).mono ?_; rintro e w4 ⟨rfl, rfl⟩)
      | (go_at_call 14; refine (get_bad _ _ n (by omega)).mono ?_; rintro e w4 ⟨rfl, rfl⟩)
      | (go_at_call 18; refine (len_any _ _ rv3 _ (by first | exact HA3.out | exact HA3.out.drew | exact HA3.out.drew.drew)).mono ?_; rintro e w4 ⟨rfl, rfl⟩)
      | (go_at_call 19; refine (left_any _ r rvr l 0 (by first | exact HR3.out | exact HR3.out.drew)).mono ?_; rintro e w4 ⟨rfl, rfl⟩)
      | (go_at_call 20; refine (ones_bad _ _ _ (by decide)).mono ?_; rintro e w4 ⟨rfl, rfl⟩)
      | (go_at_call 16; refine (wakes_any _).mono ?_; rintro e w4 ⟨rfl, hb4⟩))
    go_ret
    exact ⟨rfl, HB3.out.drew.drew.trans (hb4.mono (by show w.heap.size ≤ w3.heap.size; omega))⟩
  all_goals
    obtain ⟨N, rfl⟩ := Int.eq_ofNat_of_zero_le hb0
    go_wp2_with fail
    refine (put_at w3 w.heap.size rv3 _ v N HA3.out (by simp) (by omega) _ rfl).mono ?_
    rintro e w4 ⟨rfl, rv4, hw4, hk, hn⟩
    have HA4 : Hid (WrAt w4 w.heap.size rv4 ([] ++ dig v 3 ++ dig v N)) := hw4
    have HR4 : Hid (RdAt w4 r rvr l 0) := HR3.out.kept hk (fun h => by have := FA.out r h; omega) (fun k h h' => by have := FR.out k h; have := FA.out k h'; omega)
    have HB4 : Hid (Below w.heap.size w w4) := hk.below_of HB3.out (fun k h => by have := FA.out k h; omega) (by omega)
    have FA4 : Hid (∀ k, Wf w.heap.size rv4 k → k ≠ r) := by
      rintro k (h | h)
      · omega
      · rcases hn k h with h' | h'
        · have := FA.out k (Or.inr h'); omega
        · omega
    have hs4 : w3.heap.size ≤ w4.heap.size := hk.size
    have hlen4 : ([] ++ dig v 3 ++ dig v N).length = 3 + N := by simp
    clear hw4 hk hn HA3 HR3 HB3 hlen3
  · go_wp2_with (first
      | (go_at_call 18; refine (len_any _ _ rv4 _ (by first | exact HA4.out | exact HA4.out.drew | exact HA4.out.drew.drew)).mono ?_; rintro e w5 ⟨rfl, rfl⟩)
      | (go_at_call 19; refine (left_any _ r rvr l 0 HR4.out).mono ?_; rintro e w5 ⟨rfl, rfl⟩))
    refine (get_at _ r rvr l 0 N HR4.out.drew (by omega) (by omega) _ rfl _ rfl).mono ?_
    rintro e w5 ⟨rfl, hr5, hk5⟩
    have HA5 : Hid (WrAt w5 w.heap.size rv4 ([] ++ dig v 3 ++ dig v N)) := HA4.out.drew.other hk5 (fun k h => FA4.out k h)
    have HB5 : Hid (Below w.heap.size w w5) := hk5.below_of HB4.out.drew (fun k h => by omega) (by show _ ≤ w4.heap.size; omega)
    have hs5 : w4.heap.size ≤ w5.heap.size := hk5.size
    clear hr5 hk5 HR4
    go_wp2_with (first
      | (go_at_call 18; refine (len_any _ _ rv4 _ (by first | exact HA5.out | exact HA5.out.drew)).mono ?_; rintro e w6 ⟨rfl, rfl⟩)
      | (go_at_call 20; refine (ones_bad _ _ _ (by decide)).mono ?_; rintro e w6 ⟨rfl, rfl⟩)
      | (go_at_call 16; refine (wakes_any _).mono ?_; rintro e w6 ⟨rfl, hb6⟩))
    go_ret
    exact ⟨rfl, HB5.out.trans (hb6.mono (by omega))⟩
  · go_wp2_with (first
      | (go_at_call 18; refine (len_any _ _ rv4 _ (by first | exact HA4.out | exact HA4.out.drew | exact HA4.out.drew.drew | exact HA4.out.drew.drew.drew)).mono ?_; rintro e w5 ⟨rfl, rfl⟩)
      | (go_at_call 19; refine (left_any _ r rvr l 0 (by first | exact HR4.out | exact HR4.out.drew | exact HR4.out.drew.drew)).mono ?_; rintro e w5 ⟨rfl, rfl⟩)
      | (go_at_call 14; refine (get_few _ r rvr l 0 N (by first | exact HR4.out | exact HR4.out.drew) (by omega) (by omega) (by omega)).mono ?_; rintro e w5 ⟨rfl, rfl⟩)
      | (go_at_call 20; refine (ones_bad _ _ _ (by decide)).mono ?_; rintro e w5 ⟨rfl, rfl⟩)
      | (go_at_call 16; refine (wakes_any _).mono ?_; rintro e w6 ⟨rfl, hb6⟩))
    go_ret
    exact ⟨rfl, HB4.out.drew.drew.drew.trans (hb6.mono (by show w.heap.size ≤ w4.heap.size; omega))⟩

end Go.Proofs.Ytkloocfceghddaa
