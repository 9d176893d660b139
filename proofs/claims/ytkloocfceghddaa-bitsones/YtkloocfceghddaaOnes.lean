/- BitsOnes: the walk of the law. -/
import Derived.Test.YtkloocfceghddaaWalk9
namespace Go.Proofs.Ytkloocfceghddaa
set_option linter.unusedVariables false
set_option linter.unusedSimpArgs false
open Go.RowKit Dg

def oneDs (N : Nat) : List Bool := [] ++ (List.replicate N true ++ [false]) ++ dig 1 1
theorem oneDs_len (N : Nat) : (oneDs N).length = N + 2 := by simp [oneDs]
theorem oneDs_get (N i : Nat) : (unpack (pack (oneDs N)))[i]? = if i < N then some true else if i = N then some false else if i = N + 1 then some true else (unpack (pack (oneDs N)))[i]? := by
  rw [unpack_pack]
  split
  · rename_i h
    simp [oneDs, dig, List.getElem?_append, h]
  · split
    · rename_i h h2
      subst h2
      simp [oneDs, dig, List.getElem?_append]
    · split
      · rename_i h h2 h3
        subst h3
        simp [oneDs, dig, List.getElem?_append]
      · rfl

set_option maxHeartbeats 4000000 in
theorem bitsOnes_any (w : World) (n m : Int) (hn1 : -9223372036854775808 ≤ n) (hn2 : n ≤ 9223372036854775807) (hm1 : -9223372036854775808 ≤ m) (hm2 : m ≤ 9223372036854775807) :
    Calls Try.prog 5 #[.int .i64 n, .int .i64 m] w fun e w' => e = .returned (.bool true) ∧ Below w.heap.size w w' := by
  go_enter Try.func5, Try.ntmps5
  go_wp2_with fail
  refine (within_nat n 60 _ hn1 hn2 (by decide) (by decide) _ rfl).mono ?_
  rintro e w1 ⟨N, rfl, hN, -, rfl⟩
  go_wp2_with fail
  refine (within_nat m 70 _ hm1 hm2 (by decide) (by decide) _ rfl).mono ?_
  rintro e w1 ⟨M, rfl, hM, -, rfl⟩
  go_wp2_with fail
  refine (newWriter_any _).mono ?_
  rintro e w1 ⟨rfl, hwa1, hb1, hs1⟩
  have HA1 : Hid (WrAt w1 w.heap.size (.slice none 0 0) []) := hwa1
  have HB1 : Hid (Below w.heap.size w w1) := hb1
  clear hwa1 hb1
  go_wp2_with fail
  refine (ones_any w1 w.heap.size _ [] N HA1.out (by decide) (by omega)).mono ?_
  rintro e w2 ⟨rfl, rv2, hw2, hk, hn⟩
  have HA2 : Hid (WrAt w2 w.heap.size rv2 ([] ++ (List.replicate N true ++ [false]))) := hw2
  have HB2 : Hid (Below w.heap.size w w2) := hk.below_of HB1.out (fun k h => (HA1.out.foot k h).1) (by omega)
  have hs2 : w1.heap.size ≤ w2.heap.size := hk.size
  clear hw2 hk hn HA1 HB1
  go_wp2_with fail
  refine (put_at w2 w.heap.size rv2 _ 1 1 HA2.out (by simp; omega) (by decide) _ rfl).mono ?_
  rintro e w3 ⟨rfl, rv3, hw3, hk, hn⟩
  have HA3 : Hid (WrAt w3 w.heap.size rv3 (oneDs N)) := hw3
  have HB3 : Hid (Below w.heap.size w w3) := hk.below_of HB2.out (fun k h => (HA2.out.foot k h).1) (by omega)
  have hs3 : w2.heap.size ≤ w3.heap.size := hk.size
  clear hw3 hk hn HA2 HB2
  obtain ⟨l, hl⟩ : ∃ l, l = pack (oneDs N) := ⟨_, rfl⟩
  have hll : l.length = (N + 9) / 8 := by rw [hl, length_pack, oneDs_len]
  have hl256 : ∀ x ∈ l, x < 256 := by rw [hl]; exact pack_lt _
  have HL : Hid (l = pack (oneDs N)) := hl
  have H256 : Hid (∀ x ∈ l, x < 256) := hl256
  have HLL : Hid (l.length = (N + 9) / 8) := hll
  have hll2 : l.length ≤ 9 := by omega
  have HG : Hid (∀ i, (unpack l)[i]? = if i < N then some true else if i = N then some false else if i = N + 1 then some true else (unpack l)[i]?) := by rw [hl]; exact oneDs_get N
  clear hl hl256 hll
  go_wp2_with fail
  refine (bytes_any w3 w.heap.size rv3 _ l HL.out HA3.out (by rw [oneDs_len]; omega)).mono ?_
  rintro e w4 ⟨rfl, hn4⟩
  have hs4 : w3.heap.size < w4.heap.size := (hn4.1.lt _ rfl).2
  have HN4 : Hid (NewBytes w3 w4 l) := hn4
  clear hn4
  go_wp2_with fail
  refine (newReader_any w4 _ l (SlAt.of_owns HN4.out.1) (by omega) H256.out).mono ?_
  rintro e w5 ⟨r, rfl, hr, hrd, hb5⟩
  obtain ⟨rvr, hrvr⟩ : ∃ rvr : Value, rvr = .slice (some ⟨w4.heap.size, 0, none⟩) l.length l.length := ⟨_, rfl⟩
  rw [← hrvr] at hrd
  have HR5 : Hid (RdAt w5 r rvr l 0) := hrd
  have HB5 : Hid (Below w.heap.size w w5) := HB3.out.trans ((HN4.out.2.mono (by omega)).trans (hb5.mono (by omega)))
  have hs5 : w4.heap.size ≤ w5.heap.size := hb5.size
  clear hrd hb5 hrvr HB3 HA3
  go_wp2_with fail
  by_cases hMN : M ≤ N
  · refine (rones_most w5 r rvr l 0 M HR5.out (by omega) (by have := HLL.out; omega) (fun i hi => by rw [HG.out, if_pos (by omega)])).mono ?_
    rintro e w6 ⟨rfl, hr6, hk6⟩
    have HR6 : Hid (RdAt w6 r rvr l (0 + M)) := hr6
    have HB6 : Hid (Below w.heap.size w w6) := hk6.below_of HB5.out (fun k h => by omega) (by omega)
    have hs6 : w5.heap.size ≤ w6.heap.size := hk6.size
    clear hr6 hk6
    have hmin : (if M < N then (M : Int) else (N : Int)) = (M : Int) := by split <;> omega
    have hll := HLL.out
    go_wp2_with (first
      | (go_at_call 19; refine (left_any w6 r rvr l (0 + M) HR6.out).mono ?_; rintro e w7 ⟨rfl, rfl⟩)
      | (go_at_call 16; refine (wakes_any _).mono ?_; rintro e w8 ⟨rfl, hb8⟩))
    go_ret
    exact ⟨rfl, HB6.out.drew.trans (hb8.mono (by show w.heap.size ≤ w6.heap.size; omega))⟩
  · have hg2 : (unpack l)[N + 1]? = some true := by rw [HG.out, if_neg (by omega), if_neg (by omega), if_pos rfl]
    have H2 : Hid ((unpack l)[N + 1]? = some true) := hg2
    clear hg2
    refine (rones_nought w5 r rvr l 0 N M HR5.out (by omega) (by omega) (by rw [Nat.zero_add, HG.out, if_neg (by omega), if_pos rfl]) (fun i hi => by rw [Nat.zero_add, HG.out, if_pos (by omega)])).mono ?_
    rintro e w6 ⟨rfl, hr6, hk6⟩
    have HR6 : Hid (RdAt w6 r rvr l (0 + N + 1)) := hr6
    have HB6 : Hid (Below w.heap.size w w6) := hk6.below_of HB5.out (fun k h => by omega) (by omega)
    have hs6 : w5.heap.size ≤ w6.heap.size := hk6.size
    clear hr6 hk6
    have hmin : (if M < N then (M : Int) else (N : Int)) = (N : Int) := by split <;> omega
    have hll := HLL.out
    go_wp2_with fail
    refine (get_at w6 r rvr l (0 + N + 1) 1 HR6.out (by decide) (by omega) _ rfl 1 ?x1).mono ?_
    case x1 =>
      have e : ((unpack l).drop (0 + N + 1)).take (0 + 1) = [] ++ [true] := take_drop_snoc _ _ 0 true (by rw [Nat.zero_add]; exact H2.out)
      rw [e]; rfl
    rintro e w7 ⟨rfl, hr7, hk7⟩
    have HR7 : Hid (RdAt w7 r rvr l (0 + N + 1 + 1)) := hr7
    have HB7 : Hid (Below w.heap.size w w7) := hk7.below_of HB6.out (fun k h => by omega) (by omega)
    have hs7 : w6.heap.size ≤ w7.heap.size := hk7.size
    clear hr7 hk7
    go_wp2_with (first
      | (go_at_call 19; refine (left_any w7 r rvr l (0 + N + 1 + 1) HR7.out).mono ?_; rintro e w7 ⟨rfl, rfl⟩)
      | (go_at_call 16; refine (wakes_any _).mono ?_; rintro e w8 ⟨rfl, hb8⟩))
    go_ret
    exact ⟨rfl, HB7.out.drew.trans (hb8.mono (by show w.heap.size ≤ w7.heap.size; omega))⟩

end Go.Proofs.Ytkloocfceghddaa
