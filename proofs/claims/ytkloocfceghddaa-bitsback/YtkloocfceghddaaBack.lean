/- BitsBack: the walk of the law. -/
import Derived.Test.YtkloocfceghddaaActs
namespace Go.Proofs.Ytkloocfceghddaa
set_option linter.unusedVariables false
set_option linter.unusedSimpArgs false
open Go.RowKit Dg

/-- How many digits a call of the law asks for; which number; which digits. -/
def aK (t : Int × Int × Int) : Nat := (t.2.2 % 40).toNat
def aV (t : Int × Int × Int) : Int := t.2.1 % ((2 ^ aK t : Nat) : Int)
def aD (t : Int × Int × Int) : List Bool := if t.1 % 3 = 2 then List.replicate (aK t) true ++ [false] else dig (aV t) (aK t)
def wrote (f : Nat → Int × Int × Int) : Nat → List Bool
  | 0 => []
  | i + 1 => wrote f i ++ aD (f i)
theorem aK_lt (t : Int × Int × Int) : aK t < 40 := by
  unfold aK
  have h1 := Int.emod_nonneg t.2.2 (show (40 : Int) ≠ 0 by decide)
  have h2 := Int.emod_lt_of_pos t.2.2 (show (0 : Int) < 40 by decide)
  omega
theorem aD_len (t : Int × Int × Int) : (aD t).length = if t.1 % 3 = 2 then aK t + 1 else aK t := by
  unfold aD; split <;> simp
theorem wrote_len (f : Nat → Int × Int × Int) (i : Nat) : (wrote f i).length ≤ i * 41 := by
  induction i with
  | zero => simp [wrote]
  | succ i ih =>
    have h1 := aD_len (f i)
    have h2 := aK_lt (f i)
    simp only [wrote, List.length_append]
    split at h1 <;> omega

theorem wrote_split (f : Nat → Int × Int × Int) (j T : Nat) (h : j < T) : ∃ rest, wrote f T = wrote f j ++ (aD (f j) ++ rest) := by
  induction T with
  | zero => omega
  | succ T ih =>
    by_cases e : j = T
    · subst e; exact ⟨[], by simp [wrote]⟩
    · obtain ⟨rest, hr⟩ := ih (by omega)
      exact ⟨rest ++ aD (f T), by simp [wrote, hr]⟩

/-- The first loop: what is written. -/
def Loop1 (w : World) (f : Nat → Int × Int × Int) (b j : Nat) (wr : World) : Prop := (∃ rv, WrAt wr b rv (wrote f j)) ∧ Below w.heap.size w wr

theorem aV_nat (t : Int × Int × Int) : ∃ V : Nat, aV t = V ∧ V < 2 ^ aK t := by
  unfold aV
  have hp : (0 : Int) < ((2 ^ aK t : Nat) : Int) := by have : 0 < 2 ^ aK t := Nat.pow_pos (by decide); omega
  have h1 := Int.emod_nonneg t.2.1 (show ((2 ^ aK t : Nat) : Int) ≠ 0 by omega)
  have h2 := Int.emod_lt_of_pos t.2.1 hp
  exact ⟨(t.2.1 % ((2 ^ aK t : Nat) : Int)).toNat, by omega, by omega⟩

theorem pow40 (K : Nat) (hK : K < 40) : 1 ≤ 2 ^ K ∧ 2 ^ K ≤ 4611686018427387904 := by
  have h1 : 2 ^ K ≤ 2 ^ 62 := Nat.pow_le_pow_right (by decide) (by omega)
  have h2 : (2 : Nat) ^ 62 = 4611686018427387904 := by decide
  exact ⟨Nat.pow_pos (by decide), by omega⟩

theorem tail_false (ds : List Bool) (i : Nat) (h1 : ds.length ≤ i) (h2 : i < 8 * (pack ds).length) : (unpack (pack ds))[i]? = some false := by
  rw [length_pack] at h2
  rw [unpack_pack, List.getElem?_append_right h1, List.getElem?_replicate, if_pos (by omega)]

set_option maxRecDepth 100000 in
set_option maxHeartbeats 4000000 in
theorem back_any (w : World) (a : Option Addr) (len cap : Nat) (f : Nat → Int × Int × Int) (hlen : len ≤ maxLen) (hf : ActsAt w a len f) :
    Calls Try.prog 8 #[.slice a len cap] w fun e w' => e = .returned (.bool true) ∧ Below w.heap.size w w' := by
  unfold maxLen at hlen
  have HF : Hid (ActsAt w a len f) := hf
  clear hf
  go_enter Try.func8, Try.ntmps8
  go_wp2_with fail
  refine (newWriter_any _).mono ?_
  rintro e w1 ⟨rfl, hwa1, hb1, hs1⟩
  obtain ⟨b, hb⟩ : ∃ b, b = w.heap.size := ⟨_, rfl⟩
  rw [← hb] at hwa1 hs1 ⊢
  have HB1 : Hid (Below w.heap.size w w1) := hb ▸ hb1
  have HA1 : Hid (WrAt w1 b (.slice none 0 0) []) := hwa1
  have HSB : Hid (b = w.heap.size) := hb
  clear hwa1 hb1 hb
  go_wp2_with fail
  go_loopw [4, 5] (fun nn i wr => ∃ j : Nat, j ≤ len ∧ j ≤ 30 ∧ i = .int .i64 j ∧ nn = .int .i64 ((wrote f j).length : Nat) ∧ b < wr.heap.size ∧ Hid (Loop1 w f b j wr)) (fun _ i _ => 30 - (intOf i).toNat)
  case atStart => exact ⟨0, Nat.zero_le _, Nat.zero_le _, rfl, rfl, hs1, ⟨_, HA1.out⟩, HB1.out⟩
  case round =>
    obtain ⟨j, hj, hj30, rfl, rfl, hbr, hwr⟩ := hrel
    by_cases hlt : j < len ∧ j < 30
    · obtain ⟨hjl, hj3⟩ := hlt
      obtain ⟨⟨rv, hw⟩, hbl⟩ := hwr.out
      obtain ⟨c, off, rfl, hcl, h0, h1, h2, i0, i1, i2⟩ := HF.out.below hbl j hjl
      obtain ⟨n, hn⟩ : ∃ n, n = (wrote f j).length := ⟨_, rfl⟩
      have hnl : n ≤ 1230 := by have := wrote_len f j; omega
      obtain ⟨t, ht⟩ : ∃ t, t = f j := ⟨_, rfl⟩
      rw [← hn]
      rw [← ht] at h0 h1 h2 i0 i1 i2
      have HN : Hid (n = (wrote f j).length) := hn
      have HW : Hid (WrAt wr b rv (wrote f j)) := hw
      have HBL : Hid (Below w.heap.size w wr) := hbl
      have HT : Hid (t = f j) := ht
      have I0 : Hid (I64 t.1) := i0
      have I1 : Hid (I64 t.2.1) := i1
      have I2 : Hid (I64 t.2.2) := i2
      clear hn hw hbl ht hwr i0 i1 i2
      obtain ⟨D, V, N⟩ := t
      simp only at h0 h1 h2
      go_wp2_with fail
      refine (within_nat N 40 _ I2.out.1 I2.out.2 (by decide) (by decide) _ rfl).mono ?_
      rintro e w' ⟨K, rfl, hK, hKe, rfl⟩
      have HK : Hid (K = aK (D, V, N)) := by show K = (N % 40).toNat; omega
      clear hKe
      go_wp2_with fail
      refine (within_nat D 3 _ I0.out.1 I0.out.2 (by decide) (by decide) _ rfl).mono ?_
      rintro e w' ⟨d3, rfl, hd3, hde, rfl⟩
      have HD : Hid ((d3 : Int) = D % 3) := hde
      clear hde
      have hlw : (wrote f j).length < 4398046500000 := by have := HN.out; omega
      have HLW : Hid ((wrote f j).length < 4398046500000) := hlw
      clear hlw
      by_cases hd : d3 = 2
      · subst hd
        obtain ⟨ds, hds⟩ : ∃ ds, ds = wrote f j ++ (List.replicate K true ++ [false]) := ⟨_, rfl⟩
        have hdl : ((ds.length : Nat) : Int) = (n : Int) + (K + 1) := by rw [hds]; simp; have := HN.out; omega
        have hdw : ds = wrote f (j + 1) := by
          simp only [wrote]
          rw [hds, ← HT.out, HK.out]
          simp only [aD]
          rw [if_pos (by have := HD.out; omega)]
        go_wp2_with fail
        refine (ones_any wr b rv _ K HW.out HLW.out (by omega)).mono ?_
        rw [← hds]
        rintro e w2 ⟨rfl, rv2, hw2, hk2, hn2⟩
        have HW2 : Hid (WrAt w2 b rv2 ds) := hw2
        have HB2 : Hid (Below w.heap.size w w2) := hk2.below_of HBL.out (fun k h => by have := (HW.out.foot k h).1; have := HSB.out; omega) (by have := HSB.out; omega)
        have hs2 : wr.heap.size ≤ w2.heap.size := hk2.size
        have HDW : Hid (ds = wrote f (j + 1)) := hdw
        clear hw2 hk2 hn2 hds hdw
        go_wp2_with (go_at_call 18; refine (len_any _ _ rv2 _ HW2.out).mono ?_; rintro e w3 ⟨rfl, rfl⟩)
        go_roundw
        case rel => exact ⟨j + 1, by omega, by omega, by go_num, by rw [← HDW.out, hdl], by omega, ⟨_, HDW.out ▸ HW2.out⟩, HB2.out⟩
        case measure => simp [intOf]; omega
      · have hd2 : ((d3 : Int) == 2) = false := by simp; omega
        obtain ⟨hp1, hp2⟩ := pow40 K hK
        have HP1 : Hid (1 ≤ 2 ^ K) := hp1
        have HP2 : Hid (2 ^ K ≤ 4611686018427387904) := hp2
        clear hp1 hp2
        go_wp2_with fail
        refine (within_nat V (2 ^ K) _ I1.out.1 I1.out.2 HP1.out HP2.out _ (wrap64_pow _ (by omega))).mono ?_
        rintro e w' ⟨X, rfl, hX, hXe, rfl⟩
        have HX : Hid ((X : Int) = aV (D, V, N)) := by show (X : Int) = V % ((2 ^ aK (D, V, N) : Nat) : Int); rw [← HK.out]; exact hXe
        clear hX hXe
        obtain ⟨ds, hds⟩ : ∃ ds, ds = wrote f j ++ dig X K := ⟨_, rfl⟩
        have hdl : ((ds.length : Nat) : Int) = (n : Int) + K := by rw [hds]; simp; have := HN.out; omega
        have hdw : ds = wrote f (j + 1) := by
          simp only [wrote]
          rw [hds, ← HT.out, HX.out, HK.out]
          simp only [aD]
          rw [if_neg (by have := HD.out; omega)]
        go_wp2_with fail
        refine (put_at wr b rv _ _ K HW.out (by have := HLW.out; omega) (by omega) _ rfl).mono ?_
        rw [← hds]
        rintro e w2 ⟨rfl, rv2, hw2, hk2, hn2⟩
        have HW2 : Hid (WrAt w2 b rv2 ds) := hw2
        have HB2 : Hid (Below w.heap.size w w2) := hk2.below_of HBL.out (fun k h => by have := (HW.out.foot k h).1; have := HSB.out; omega) (by have := HSB.out; omega)
        have hs2 : wr.heap.size ≤ w2.heap.size := hk2.size
        have HDW : Hid (ds = wrote f (j + 1)) := hdw
        clear hw2 hk2 hn2 hds hdw
        go_wp2_with (go_at_call 18; refine (len_any _ _ rv2 _ HW2.out).mono ?_; rintro e w3 ⟨rfl, rfl⟩)
        go_roundw
        case rel => exact ⟨j + 1, by omega, by omega, by go_num, by rw [← HDW.out, hdl], by omega, ⟨_, HDW.out ▸ HW2.out⟩, HB2.out⟩
        case measure => simp [intOf]; omega
    · obtain ⟨⟨rv, hw⟩, hbl⟩ := hwr.out
      obtain ⟨n, hn⟩ : ∃ n, n = (wrote f j).length := ⟨_, rfl⟩
      have hnl : n ≤ 1230 := by have := wrote_len f j; omega
      rw [← hn]
      have HN : Hid ((wrote f j).length = n) := hn.symm
      have HW : Hid (WrAt wr b rv (wrote f j)) := hw
      have HBL : Hid (Below w.heap.size w wr) := hbl
      obtain ⟨l, hl⟩ : ∃ l, l = pack (wrote f j) := ⟨_, rfl⟩
      have hll : l.length = (n + 7) / 8 := by rw [hl, length_pack, ← hn]
      have H256 : Hid (∀ x ∈ l, x < 256) := by rw [hl]; exact pack_lt _
      have HL : Hid (l = pack (wrote f j)) := hl
      have HLL : Hid (l.length = (n + 7) / 8) := hll
      have hll2 : l.length ≤ 155 := by omega
      have hbw : w.heap.size ≤ wr.heap.size := hbl.size
      clear hn hw hbl hwr hl hll
      go_wp2_with fail
      all_goals
        refine (bytes_any wr b rv _ l HL.out HW.out (by have := HN.out; omega)).mono ?_
        rintro e w2 ⟨rfl, hn2⟩
        have hs2 : wr.heap.size < w2.heap.size := (hn2.1.lt _ rfl).2
        have HN2 : Hid (NewBytes wr w2 l) := hn2
        clear hn2
        go_wp2_with fail
        refine (newReader_any w2 _ l (SlAt.of_owns HN2.out.1) (by omega) H256.out).mono ?_
        rintro e w3 ⟨r, rfl, hr, hrd, hb3⟩
        obtain ⟨rvr, hrvr⟩ : ∃ rvr : Value, rvr = .slice (some ⟨w2.heap.size, 0, none⟩) l.length l.length := ⟨_, rfl⟩
        rw [← hrvr] at hrd
        have HR3 : Hid (RdAt w3 r rvr l 0) := hrd
        have HB3 : Hid (Below w.heap.size w w3) := HBL.out.trans ((HN2.out.2.mono (by omega)).trans (hb3.mono (by omega)))
        have hs3 : w2.heap.size ≤ w3.heap.size := hb3.size
        clear hrd hb3 hrvr HN2 HBL
        have hll := HLL.out
        have hne : ((8 * (((n : Int) + 7) / 8)) != ((n : Int) + 7) / 8 * 8) = false := by simp; omega
        go_wp2_with (go_at_call 19; refine (left_any _ r rvr l 0 HR3.out).mono ?_; rintro e w4 ⟨rfl, rfl⟩)
        clear hll hne
        go_loopw [9] (fun i wr2 => ∃ k : Nat, k ≤ j ∧ i = .int .i64 k ∧ w.heap.size < wr2.heap.size ∧ Hid (RdAt wr2 r rvr l (wrote f k).length) ∧ Hid (Below w.heap.size w wr2)) (fun i _ => j - (intOf i).toNat)
        case atStart => exact ⟨0, Nat.zero_le _, rfl, by show _ < w3.heap.size; omega, HR3.out.drew, HB3.out.drew⟩
        case round =>
          obtain ⟨k, hk, rfl, hws, hrd, hbl⟩ := hrel
          by_cases hkj : k < j
          · have hkl : k < len := by omega
            have hk30 : k < 30 := by omega
            obtain ⟨c, off, rfl, hcl, h0, h1, h2, i0, i1, i2⟩ := HF.out.below hbl.out k hkl
            obtain ⟨t, ht⟩ : ∃ t, t = f k := ⟨_, rfl⟩
            rw [← ht] at h0 h1 h2 i0 i1 i2
            have HT : Hid (t = f k) := ht
            have I0 : Hid (I64 t.1) := i0
            have I1 : Hid (I64 t.2.1) := i1
            have I2 : Hid (I64 t.2.2) := i2
            have HSP : Hid (∃ rest, wrote f j = wrote f k ++ (aD t ++ rest)) := by rw [ht]; exact wrote_split f k j hkj
            have HWS : Hid (wrote f (k + 1) = wrote f k ++ aD t) := by rw [ht]; rfl
            clear ht i0 i1 i2
            obtain ⟨D, V, N⟩ := t
            simp only at h0 h1 h2
            go_wp2_with fail
            refine (within_nat N 40 _ I2.out.1 I2.out.2 (by decide) (by decide) _ rfl).mono ?_
            rintro e w' ⟨K, rfl, hK, hKe, rfl⟩
            have HK : Hid (K = aK (D, V, N)) := by show K = (N % 40).toNat; omega
            clear hKe
            go_wp2_with fail
            refine (within_nat D 3 _ I0.out.1 I0.out.2 (by decide) (by decide) _ rfl).mono ?_
            rintro e w' ⟨d3, rfl, hd3, hde, rfl⟩
            have HD : Hid ((d3 : Int) = D % 3) := hde
            clear hde
            obtain ⟨rest, hrest⟩ := HSP.out
            have HRE : Hid (wrote f j = wrote f k ++ (aD (D, V, N) ++ rest)) := hrest
            clear hrest HSP
            by_cases hd : d3 = 2
            · subst hd
              have had : aD (D, V, N) = List.replicate K true ++ [false] := by
                simp only [aD]
                rw [if_pos (by have := HD.out; omega), HK.out]
              have HAD : Hid (aD (D, V, N) = List.replicate K true ++ [false]) := had
              clear had
              go_wp2_with fail
              refine (rones_nought wr r rvr l (wrote f k).length K _ hrd.out (by omega) (by omega) ?n1 ?n2).mono ?_
              case n1 =>
                rw [HL.out, unpack_pack, HRE.out, HAD.out]
                simp [List.getElem?_append]
              case n2 =>
                intro i hi
                rw [HL.out, unpack_pack, HRE.out, HAD.out]
                simp [List.getElem?_append, hi]
              rintro e w5 ⟨rfl, hr5, hk5⟩
              have HR5 : Hid (RdAt w5 r rvr l (wrote f (k + 1)).length) := by
                rw [HWS.out, HAD.out]
                simp only [List.length_append, List.length_replicate, List.length_cons, List.length_nil]
                exact hr5
              have HB5 : Hid (Below w.heap.size w w5) := hk5.below_of hbl.out (fun k h => by omega) (by omega)
              have hs5 := hk5.size
              clear hr5 hk5
              go_wp2
              go_roundw
              case rel => first | exact ⟨k + 1, by omega, by go_num, by omega, HR5.out, HB5.out⟩ | ((repeat apply Exists.intro); refine ⟨?_, rfl⟩; exact ⟨k + 1, by omega, by go_num, by omega, HR5.out, HB5.out⟩)
              case measure => simp [intOf]; omega
            · have hd2 : ((d3 : Int) == 2) = false := by simp; omega
              have had : aD (D, V, N) = dig (aV (D, V, N)) K := by
                simp only [aD]
                rw [if_neg (by have := HD.out; omega), HK.out]
              have HAD : Hid (aD (D, V, N) = dig (aV (D, V, N)) K) := had
              clear had
              obtain ⟨X, hX, hXlt⟩ := aV_nat (D, V, N)
              have HX : Hid (aV (D, V, N) = X) := hX
              have HXL : Hid (X < 2 ^ K) := by rw [HK.out]; exact hXlt
              clear hX hXlt
              obtain ⟨hp1, hp2⟩ := pow40 K hK
              have HP1 : Hid (1 ≤ 2 ^ K) := hp1
              have HP2 : Hid (2 ^ K ≤ 4611686018427387904) := hp2
              clear hp1 hp2
              have HNL : Hid ((wrote f k).length + K ≤ 8 * l.length) := by
                have h1 := congrArg List.length HRE.out
                rw [HAD.out] at h1
                simp only [List.length_append, length_dig] at h1
                have := HLL.out; have := HN.out
                show _ ≤ _
                omega
              go_wp2_with fail
              refine (get_at wr r rvr l (wrote f k).length K hrd.out (by omega) HNL.out _ rfl X ?x1).mono ?_
              case x1 =>
                rw [HL.out, taken _ (wrote f k) _ HRE.out _ K rfl (by rw [HAD.out]; simp), HAD.out, List.take_left' (by simp), num_dig, HX.out]
                exact Int.emod_eq_of_lt (by omega) (by rw [← pow_cast]; have := HXL.out; omega)
              rintro e w5 ⟨rfl, hr5, hk5⟩
              have HR5 : Hid (RdAt w5 r rvr l (wrote f (k + 1)).length) := by
                rw [HWS.out, HAD.out]
                simp only [List.length_append, length_dig]
                exact hr5
              have HB5 : Hid (Below w.heap.size w w5) := hk5.below_of hbl.out (fun k h => by omega) (by omega)
              have hs5 := hk5.size
              obtain ⟨c', off', e', _, _, h1', _⟩ := HF.out.below HB5.out k hkl
              cases e'
              rw [← HT.out] at h1'
              simp only at h1'
              clear hr5 hk5 h0 h1 h2
              go_wp2_with fail
              refine (within_nat V (2 ^ K) _ I1.out.1 I1.out.2 HP1.out HP2.out _ (wrap64_pow _ (by omega))).mono ?_
              rintro e w' ⟨Y, rfl, hY, hYe, rfl⟩
              have hXY : X = Y := by
                have h1 : aV (D, V, N) = V % ((2 ^ K : Nat) : Int) := by show V % ((2 ^ aK (D, V, N) : Nat) : Int) = _; rw [← HK.out]
                have := HX.out
                omega
              subst hXY
              clear hY hYe
              go_wp2
              go_roundw
              case rel => first | exact ⟨k + 1, by omega, by go_num, by omega, HR5.out, HB5.out⟩ | ((repeat apply Exists.intro); refine ⟨?_, rfl⟩; exact ⟨k + 1, by omega, by go_num, by omega, HR5.out, HB5.out⟩)
              case measure => simp [intOf]; omega
          · have hke : k = j := by omega
            subst hke
            have hlen := HN.out
            have hll := HLL.out
            go_wp2_with (first
              | (go_at_call 30; refine (rest_true _ r rvr l n (by rw [← HN.out]; exact hrd.out) (fun i h1 h2 => by rw [HL.out]; exact tail_false _ i (by rw [HN.out]; exact h1) (by rw [← HL.out]; exact h2))).mono ?_; rintro e w5 ⟨rfl, rfl⟩)
              | (go_at_call 19; refine (left_any _ r rvr l n (by rw [← HN.out]; exact hrd.out)).mono ?_; rintro e w5 ⟨rfl, rfl⟩)
              | (go_at_call 16; refine (wakes_any _).mono ?_; rintro e w6 ⟨rfl, hb6⟩))
            go_ret
            exact ⟨rfl, hbl.out.drew.trans (hb6.mono (by show _ ≤ wr.heap.size; omega))⟩

end Go.Proofs.Ytkloocfceghddaa
