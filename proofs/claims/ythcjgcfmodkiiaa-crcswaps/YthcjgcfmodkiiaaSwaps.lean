/- CrcSwaps: the walk of the law. -/
import Derived.Test.YthcjgcfmodkiiaaCrc6
namespace Go.Proofs.Ythcjgcfmodkiiaa
set_option linter.unusedVariables false
set_option linter.unusedSimpArgs false
open Go.RowKit Dg Cr

/-- A byte with one digit turned. -/
def flip (c k : Nat) : Nat := c ^^^ 128 / 2 ^ (k % 8)
theorem mask_lt (k : Nat) : 128 / 2 ^ (k % 8) < 256 := Nat.lt_of_le_of_lt (Nat.div_le_self _ _) (by decide)
theorem mask_pos (k : Nat) : 0 < 128 / 2 ^ (k % 8) := by
  have : k % 8 ≤ 7 := by omega
  exact Nat.div_pos (Nat.le_trans (Nat.pow_le_pow_right (by decide) this) (by decide)) (Nat.pow_pos (by decide))
theorem flip_lt (c k : Nat) (hc : c < 256) : flip c k < 256 := Nat.xor_lt_two_pow (n := 8) hc (mask_lt k)
theorem xor_cancel (a b : Nat) : a ^^^ b ^^^ b = a := by rw [Nat.xor_assoc, Nat.xor_self, Nat.xor_zero]
theorem flip_flip (c k : Nat) : flip (flip c k) k = c := xor_cancel _ _
theorem flip_ne (c k : Nat) : flip c k ≠ c := by
  intro h
  have h1 : c ^^^ (c ^^^ 128 / 2 ^ (k % 8)) = c ^^^ c := by have := congrArg (c ^^^ ·) h; exact this
  rw [← Nat.xor_assoc, Nat.xor_self, Nat.zero_xor] at h1
  have := mask_pos k
  omega
theorem flip_num (c k : Nat) (hc : c < 256) : bits BinOp.xor IntKind.u8 (c : Int) (128 / 2 ^ (k % 8)) = ((flip c k : Nat) : Int) := by
  have e : (128 : Int) / 2 ^ (k % 8) = ((128 / 2 ^ (k % 8) : Nat) : Int) := by push_cast; rfl
  rw [e, u8_xor_nat _ _ hc (mask_lt k)]; rfl

theorem set_parts (l : List Nat) (i y x : Nat) (h : l[i]? = some x) : l = l.take i ++ x :: l.drop (i + 1) ∧ l.set i y = l.take i ++ y :: l.drop (i + 1) := by
  have hi : i < l.length := (List.getElem?_eq_some_iff.1 h).1
  have hx : l[i] = x := (List.getElem?_eq_some_iff.1 h).2
  constructor
  · rw [← hx, List.getElem_cons_drop, List.take_append_drop]
  · rw [List.set_eq_take_append_cons_drop, if_pos hi]
theorem crc_set (v : BitVec 32) (l : List Nat) (i x y : Nat) (h : l[i]? = some x) (hx : x < 256) (hy : y < 256) (e : crc v (l.set i y) = crc v l) : y = x := by
  obtain ⟨e1, e2⟩ := set_parts l i y x h
  rw [e2, congrArg (crc v) e1] at e
  exact crc_byte _ _ hy hx e
theorem swap_parts (l : List Nat) (i x y : Nat) (hx : l[i]? = some x) (hy : l[i + 1]? = some y) :
    l = l.take i ++ x :: y :: l.drop (i + 2) ∧ (l.set i y).set (i + 1) x = l.take i ++ y :: x :: l.drop (i + 2) := by
  have hi : i + 1 < l.length := (List.getElem?_eq_some_iff.1 hy).1
  have hx' : l[i] = x := (List.getElem?_eq_some_iff.1 hx).2
  have hy' : l[i + 1] = y := (List.getElem?_eq_some_iff.1 hy).2
  constructor
  · conv => lhs; rw [← List.take_append_drop i l, List.drop_eq_getElem_cons (show i < l.length by omega), List.drop_eq_getElem_cons hi, hx', hy']
  · apply List.ext_getElem?
    intro k
    rw [List.getElem?_set, List.getElem?_set]
    by_cases h1 : i + 1 = k
    · subst h1
      rw [if_pos rfl, if_pos (by simpa using hi), List.getElem?_append_right (by simp; omega)]
      simp [Nat.min_eq_left (show i ≤ l.length by omega)]
    · rw [if_neg h1]
      by_cases h2 : i = k
      · subst h2
        rw [if_pos rfl, if_pos (by omega), List.getElem?_append_right (by simp; omega)]
        simp [Nat.min_eq_left (show i ≤ l.length by omega)]
      · rw [if_neg h2]
        by_cases h3 : k < i
        · rw [List.getElem?_append_left (by simp; omega), List.getElem?_take, if_pos h3]
        · rw [List.getElem?_append_right (by simp; omega)]
          have e : k - (l.take i).length = (k - (i + 2)) + 2 := by simp; omega
          rw [e]
          simp
          congr 1; omega

set_option maxHeartbeats 4000000 in
theorem swaps_any (w : World) (a : Option Addr) (len cap : Nat) (zs : List Int) (at_ digit : Int) (hr : IsRow .u8 w a len cap zs) (ha : -9223372036854775808 ≤ at_ ∧ at_ ≤ 9223372036854775807) (hd : -9223372036854775808 ≤ digit ∧ digit ≤ 9223372036854775807) :
    Calls Try.prog 3 #[.slice a len cap, .int .i64 at_, .int .i64 digit] w fun e w' => e = .returned (.bool true) ∧ Below w.heap.size w w' := by
  obtain ⟨l, hll, h256, hsl, hc1, hc2, hc3⟩ := cut_row (n := 120) hr
  have hl3 : l.length ≤ 120 := by omega
  have HS : Hid (SlAt w (.slice a (min len 120) cap) l) := hsl
  have H256 : Hid (∀ x ∈ l, x < 256) := h256
  have HC3 : Hid (a = none → len = 0 ∧ cap = 0) := hc3
  obtain ⟨X, hX⟩ : ∃ X, X = (crc ones l).toNat := ⟨_, rfl⟩
  have HX : Hid (X = (crc ones l).toNat) := hX
  clear hll h256 hsl hc3 hr hX
  go_enter Try.func3, Try.ntmps3
  go_wp2_with fail
  refine (cutCopyB_any w a len cap 120 l HS.out (by decide) hc1 hc2 HC3.out).mono ?_
  rintro e w1 ⟨v, rfl, ho, hb⟩
  have HO1 : Hid (w1.ownsRow w.heap.size 5 1 v l.length (u8s l)) := ho
  have HB1 : Hid (Below w.heap.size w w1) := hb
  have hs1 : w.heap.size ≤ w1.heap.size := hb.size
  have FV : Hid (∀ k, v.ownBlock = some k → w.heap.size ≤ k ∧ k < w1.heap.size) := fun k hk => HO1.out.lt k hk
  clear ho hb
  go_wp2_with fail
  refine (tnew_any w1).mono ?_
  rintro e w2 ⟨rfl, ht2, hb2, hs2⟩
  have HT2 : Hid (TbAt w2 w1.heap.size false) := ht2
  have HB2 : Hid (Below w.heap.size w w2) := HB1.out.trans (hb2.mono (by omega))
  have HO2 : Hid (w2.ownsRow w.heap.size 5 1 v l.length (u8s l)) := ownsRow_other HO1.out (Kept.of_below hb2) (fun _ _ h => h)
  clear ht2 hb2 HO1 HB1
  go_wp2_with fail
  refine (tsum_at w2 w1.heap.size _ _ l X HX.out HT2.out (SlAt.of_owns HO2.out) (fun _ k hk => by have := FV.out k hk; omega) (by omega) H256.out).mono ?_
  rintro e w3 ⟨rfl, ht3, hk3⟩
  obtain ⟨m3, hm3⟩ : ∃ m3, m3 = (false || !l.isEmpty) := ⟨_, rfl⟩
  rw [← hm3] at ht3
  have HT3 : Hid (TbAt w3 w1.heap.size m3) := ht3
  have HO3 : Hid (w3.ownsRow w.heap.size 5 1 v l.length (u8s l)) := ownsRow_other HO2.out hk3 (fun k hk h => by have := FV.out k hk; omega)
  have HB3 : Hid (Below w.heap.size w w3) := hk3.below_of HB2.out (fun k h => by omega) (by omega)
  have hs3 : w2.heap.size ≤ w3.heap.size := hk3.size
  clear ht3 hk3 hm3 HO2 HT2 HB2
  by_cases hne : l = []
  · subst hne
    obtain ⟨c, hv⟩ : ∃ a c, v = .slice a 0 c := by
      rcases HO3.out.2 with ⟨e1, _⟩ | ⟨g, c, cur, e1, _⟩
      · exact ⟨_, _, e1⟩
      · exact ⟨_, _, e1⟩
    obtain ⟨c', rfl⟩ := hv
    go_wp2_with fail
    refine (wakes3_any _).mono ?_
    rintro e w4 ⟨rfl, hb4⟩
    have HB4 : Hid (Below w.heap.size w w4) := HB3.out.trans (hb4.mono (by omega))
    clear hb4
    go_wp2
    go_ret
    exact ⟨rfl, HB4.out⟩
  · have hpos : 0 < l.length := List.length_pos_iff.2 hne
    obtain ⟨g, c, rfl⟩ : ∃ g c, v = .slice (some ⟨g, 0, none⟩) l.length c := by
      rcases HO3.out.2 with ⟨_, e1⟩ | ⟨g, c, cur, e1, _⟩
      · omega
      · exact ⟨_, _, e1⟩
    have hg := FV.out g rfl
    clear FV hne
    obtain ⟨K, hK⟩ := Int.eq_ofNat_of_zero_le (Int.emod_nonneg digit (show 8 * (l.length : Int) ≠ 0 by omega))
    have hK8 : K < 8 * l.length := by have := Int.emod_lt_of_pos digit (show 0 < 8 * (l.length : Int) by omega); omega
    have HK : Hid (digit % (8 * (l.length : Int)) = (K : Int)) := hK
    clear hK
    go_wp2_with fail
    refine (within_any digit (8 * (l.length : Int)) _ hd.1 hd.2 (by omega) (by omega)).mono ?_
    rintro e w0 ⟨rfl, rfl⟩
    rw [HK.out]
    have hK8' : K / 8 < l.length := by omega
    obtain ⟨x, hx⟩ : ∃ x, l[K / 8]? = some x := ⟨l[K / 8], by simp [hK8']⟩
    have HXK : Hid (l[K / 8]? = some x) := hx
    have hx256 : x < 256 := H256.out x (List.mem_of_getElem? hx)
    have hrow : w3.cell? ⟨g, K / 8, none⟩ = some (.int .u8 (x : Int)) ∧ w3.frozen? ⟨g, K / 8, none⟩ = false := own_cell HO3.out hx
    obtain ⟨hrc, hrf⟩ := hrow
    obtain ⟨y, hy⟩ : ∃ y, y = flip x K := ⟨_, rfl⟩
    have hy256 : y < 256 := by rw [hy]; exact flip_lt x K hx256
    have HF1 : Hid (bits BinOp.xor IntKind.u8 (x : Int) (128 / 2 ^ (K % 8)) = (y : Int)) := by show _ = _; rw [hy]; exact flip_num x K hx256
    have HF2 : Hid (bits BinOp.xor IntKind.u8 (y : Int) (128 / 2 ^ (K % 8)) = (x : Int)) := by show _ = _; rw [flip_num y K hy256, hy, flip_flip]
    have hyx : y ≠ x := by rw [hy]; exact flip_ne x K
    obtain ⟨l2, hl2⟩ : ∃ l2, l2 = l.set (K / 8) y := ⟨_, rfl⟩
    obtain ⟨X2, hX2⟩ : ∃ X2, X2 = (crc ones l2).toNat := ⟨_, rfl⟩
    have HX2 : Hid (X2 = (crc ones l2).toNat) := hX2
    have hXX : ¬ ((X2 : Int) = (X : Int)) := by
      intro e
      have e1 : X2 = X := by omega
      rw [hX2, HX.out, hl2] at e1
      exact hyx (crc_set ones l (K / 8) x y hx hx256 hy256 (BitVec.eq_of_toNat_eq e1))
    have H256' : Hid (∀ x ∈ l2, x < 256) := fun z hz => by
      rw [hl2] at hz
      rcases List.mem_or_eq_of_mem_set hz with h | h
      · exact H256.out z h
      · omega
    have hll2 : Hid (l2.length = l.length) := by show _ = _; rw [hl2]; simp
    have HL2 : Hid (l2 = l.set (K / 8) y) := hl2
    have HBK : Hid (l2.set (K / 8) x = l) := by
      show _ = _
      rw [hl2, List.set_set]
      obtain ⟨e1, e2⟩ := set_parts l (K / 8) x x hx
      rw [e2]; exact e1.symm
    have HX2K : Hid (l2[K / 8]? = some y) := by show _ = _; rw [hl2]; simp [hK8']
    clear hx hy hl2 hX2 hyx
    go_wp2_with fail
    rw [HF1.out]
    have ho4 := own_set HO3.out (K / 8) y hK8'
    rw [← HL2.out] at ho4
    have hk4 : Kept (fun k => k = g) w3 (w3.setCell ⟨g, K / 8, none⟩ (.int .u8 (y : Int))) := Kept.setCell _ _ _ rfl
    obtain ⟨w4, hw4⟩ : ∃ w4, w4 = w3.setCell ⟨g, K / 8, none⟩ (.int .u8 (y : Int)) := ⟨_, rfl⟩
    rw [← hw4] at ho4 hk4 ⊢
    have HO4 : Hid (w4.ownsRow w.heap.size 5 1 (.slice (some ⟨g, 0, none⟩) l.length c) l.length (u8s l2)) := ho4
    have HT4 : Hid (TbAt w4 w1.heap.size m3) := HT3.out.kept hk4 (by omega)
    have HB4 : Hid (Below w.heap.size w w4) := hk4.below_of HB3.out (fun k h => by omega) (by omega)
    have hs4 : w3.heap.size ≤ w4.heap.size := hk4.size
    clear ho4 hk4 hw4 HO3 HT3 HB3 hrc hrf
    refine (tsum_at w4 w1.heap.size _ _ l2 X2 HX2.out HT4.out (SlAt.of_owns HO4.out) (fun _ k hk => by simp [Value.ownBlock] at hk; omega) (by rw [hll2.out]; omega) H256'.out).mono ?_
    rintro e w5 ⟨rfl, ht5, hk5⟩
    obtain ⟨m5, hm5⟩ : ∃ m5, m5 = (m3 || !l2.isEmpty) := ⟨_, rfl⟩
    rw [← hm5] at ht5
    have HO5 : Hid (w5.ownsRow w.heap.size 5 1 (.slice (some ⟨g, 0, none⟩) l.length c) l.length (u8s l2)) := ownsRow_other HO4.out hk5 (fun k hk h => by simp [Value.ownBlock] at hk; omega)
    have HT5 : Hid (TbAt w5 w1.heap.size m5) := ht5
    have HB5 : Hid (Below w.heap.size w w5) := hk5.below_of HB4.out (fun k h => by omega) (by omega)
    have hs5 : w4.heap.size ≤ w5.heap.size := hk5.size
    obtain ⟨hrc, hrf⟩ := own_cell HO5.out HX2K.out
    clear ht5 hk5 hm5 HO4 HT4 HB4
    have ho6 := own_set HO5.out (K / 8) x hK8'
    rw [HBK.out] at ho6
    have hk6 : Kept (fun k => k = g) w5 (w5.setCell ⟨g, K / 8, none⟩ (.int .u8 (x : Int))) := Kept.setCell _ _ _ rfl
    have HW6 : Hid (w5.setCell ⟨g, K / 8, none⟩ (.int .u8 (x : Int)) = w5.setCell ⟨g, K / 8, none⟩ (.int .u8 (x : Int))) := rfl
    have HO6 : Hid ((w5.setCell ⟨g, K / 8, none⟩ (.int .u8 (x : Int))).ownsRow w.heap.size 5 1 (.slice (some ⟨g, 0, none⟩) l.length c) l.length (u8s l)) := ho6
    have HT6 : Hid (TbAt (w5.setCell ⟨g, K / 8, none⟩ (.int .u8 (x : Int))) w1.heap.size m5) := HT5.out.kept hk6 (by omega)
    have HB6 : Hid (Below w.heap.size w (w5.setCell ⟨g, K / 8, none⟩ (.int .u8 (x : Int)))) := hk6.below_of HB5.out (fun k h => by omega) (by omega)
    have hs6 : w5.heap.size ≤ (w5.setCell ⟨g, K / 8, none⟩ (.int .u8 (x : Int))).heap.size := hk6.size
    clear ho6 hk6
    by_cases hl2 : l.length < 2
    · go_wp2_with fail
      rw [HF2.out]
      refine (wakes3_any _).mono ?_
      rintro e w7 ⟨rfl, hb7⟩
      have HB7 : Hid (Below w.heap.size w w7) := HB6.out.trans (hb7.mono (by omega))
      clear hb7
      go_wp2
      go_ret
      exact ⟨rfl, HB7.out⟩
    · go_wp2_with fail
      rw [HF2.out]
      obtain ⟨w6, hw6⟩ : ∃ w6, w6 = w5.setCell ⟨g, K / 8, none⟩ (.int .u8 (x : Int)) := ⟨_, rfl⟩
      rw [← hw6] at HO6 HT6 HB6 hs6 ⊢
      clear hw6 HW6 HO5 HT5 HB5 hrc hrf
      obtain ⟨J, hJ⟩ := Int.eq_ofNat_of_zero_le (Int.emod_nonneg at_ (show (l.length : Int) - 1 ≠ 0 by omega))
      have hJ8 : J + 1 < l.length := by have := Int.emod_lt_of_pos at_ (show 0 < (l.length : Int) - 1 by omega); omega
      have HJ : Hid (at_ % ((l.length : Int) - 1) = (J : Int)) := hJ
      clear hJ
      refine (within_any at_ ((l.length : Int) - 1) _ ha.1 ha.2 (by omega) (by omega)).mono ?_
      rintro e w0 ⟨rfl, rfl⟩
      rw [HJ.out]
      obtain ⟨p, hp⟩ : ∃ p, l[J]? = some p := ⟨l[J], by simp [show J < l.length by omega]⟩
      obtain ⟨q, hq⟩ : ∃ q, l[J + 1]? = some q := ⟨l[J + 1], by simp [hJ8]⟩
      have hp256 : p < 256 := H256.out p (List.mem_of_getElem? hp)
      have hq256 : q < 256 := H256.out q (List.mem_of_getElem? hq)
      obtain ⟨hpc, hpf⟩ := own_cell HO6.out hp
      obtain ⟨hqc, hqf⟩ := own_cell HO6.out hq
      obtain ⟨l3, hl3'⟩ : ∃ l3, l3 = (l.set J q).set (J + 1) p := ⟨_, rfl⟩
      obtain ⟨X3, hX3⟩ : ∃ X3, X3 = (crc ones l3).toNat := ⟨_, rfl⟩
      have HX3 : Hid (X3 = (crc ones l3).toNat) := hX3
      have HSW : Hid (p = q ∧ X3 = X ∨ p ≠ q ∧ X3 ≠ X) := by
        obtain ⟨e1, e2⟩ := swap_parts l J p q hp hq
        by_cases h : p = q
        · refine Or.inl ⟨h, ?_⟩
          rw [hX3, HX.out, hl3', e2]
          conv => rhs; rw [e1]
          rw [h]
        · refine Or.inr ⟨h, fun e => ?_⟩
          rw [hX3, HX.out, hl3', e2, congrArg (crc ones) e1] at e
          exact h (crc_swap _ _ hq256 hp256 (BitVec.eq_of_toNat_eq e)).symm
      have H2563 : Hid (∀ x ∈ l3, x < 256) := fun z hz => by
        rw [hl3'] at hz
        rcases List.mem_or_eq_of_mem_set hz with h | h
        · rcases List.mem_or_eq_of_mem_set h with h | h
          · exact H256.out z h
          · omega
        · omega
      have hll3 : Hid (l3.length = l.length) := by show _ = _; rw [hl3']; simp
      have HL3 : Hid (l3 = (l.set J q).set (J + 1) p) := hl3'
      clear hp hq hl3' hX3
      go_wp2
      go_region
      all_goals go_wp2
      go_region
      all_goals go_wp2_with fail
      have ho7 := own_set (own_set HO6.out J q (by omega)) (J + 1) p hJ8
      rw [← HL3.out] at ho7
      have hk7 : Kept (fun k => k = g) w6 ((w6.setCell ⟨g, J, none⟩ (.int .u8 (q : Int))).setCell ⟨g, J + 1, none⟩ (.int .u8 (p : Int))).drew.drew := by
        have h1 : Kept (fun k => k = g) w6 (w6.setCell ⟨g, J, none⟩ (.int .u8 (q : Int))) := Kept.setCell _ _ _ rfl
        exact ((h1.trans (Kept.setCell _ _ _ rfl)).drew).drew
      have ho7' : ((w6.setCell ⟨g, J, none⟩ (.int .u8 (q : Int))).setCell ⟨g, J + 1, none⟩ (.int .u8 (p : Int))).drew.drew.ownsRow w.heap.size 5 1 (.slice (some ⟨g, 0, none⟩) l.length c) l.length (u8s l3) := ho7
      obtain ⟨w7, hw7⟩ : ∃ w7, w7 = ((w6.setCell ⟨g, J, none⟩ (.int .u8 (q : Int))).setCell ⟨g, J + 1, none⟩ (.int .u8 (p : Int))).drew.drew := ⟨_, rfl⟩
      rw [← hw7] at ho7' hk7 ⊢
      have HT7 : Hid (TbAt w7 w1.heap.size m5) := HT6.out.kept hk7 (by omega)
      have HB7 : Hid (Below w.heap.size w w7) := hk7.below_of HB6.out (fun k h => by omega) (by omega)
      have HO7 : Hid (w7.ownsRow w.heap.size 5 1 (.slice (some ⟨g, 0, none⟩) l.length c) l.length (u8s l3)) := ho7'
      have hs7 : w6.heap.size ≤ w7.heap.size := hk7.size
      clear ho7 ho7' hk7 hw7 HO6 HT6 HB6 hpc hqc hpf hqf
      refine (tsum_at w7 w1.heap.size _ _ l3 X3 HX3.out HT7.out (SlAt.of_owns HO7.out) (fun _ k hk => by simp [Value.ownBlock] at hk; omega) (by rw [hll3.out]; omega) H2563.out).mono ?_
      rintro e w8 ⟨rfl, ht8, hk8⟩
      have HB8 : Hid (Below w.heap.size w w8) := hk8.below_of HB7.out (fun k h => by omega) (by omega)
      have hs8 : w7.heap.size ≤ w8.heap.size := hk8.size
      clear ht8 hk8 HO7 HT7 HB7
      have hsw : (((X3 : Int) == (X : Int)) == ((p : Int) == (q : Int))) = true := by
        rcases HSW.out with ⟨h1, h2⟩ | ⟨h1, h2⟩
        · rw [h1, h2]; simp
        · have e1 : ((X3 : Int) == (X : Int)) = false := by simp; omega
          have e2 : ((p : Int) == (q : Int)) = false := by simp; omega
          rw [e1, e2]; rfl
      go_wp2_with fail
      refine (wakes3_any _).mono ?_
      rintro e w9 ⟨rfl, hb9⟩
      have HB9 : Hid (Below w.heap.size w w9) := HB8.out.trans (hb9.mono (by omega))
      clear hb9
      go_wp2
      go_ret
      exact ⟨rfl, HB9.out⟩

end Go.Proofs.Ythcjgcfmodkiiaa
