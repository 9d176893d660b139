/- CrcMade: the walk of the law. -/
import Derived.Test.YthcjgcfmodkiiaaCrc6
import Derived.Test.YthcjgcfmodkiiaaLists
namespace Go.Proofs.Ythcjgcfmodkiiaa
set_option linter.unusedVariables false
set_option linter.unusedSimpArgs false
open Go.RowKit Dg Cr

set_option maxHeartbeats 4000000 in
theorem made_any (w : World) (a : Option Addr) (len cap : Nat) (twice : Bool) (A : Nat → Option Addr) (L C : Nat → Nat) (Z : Nat → List Int) (hlen : len ≤ maxLen) (hrows : RowsAt w a len A L C Z) :
    Calls Try.prog 6 #[.slice a len cap, .bool twice] w fun e w' => e = .returned (.bool true) ∧ Below w.heap.size w w' := by
  have HR : Hid (RowsAt w a len A L C Z) := hrows
  unfold maxLen at hlen
  clear hrows
  have hnot : ∀ (x : Bool) (w : World), (Op.unary .not (.bool x)).run Try.prog w = .ok (.bool (!x)) w := fun _ _ => rfl
  go_enter Try.func6, Try.ntmps6
  go_wp2_with fail
  refine (tnew_any w).mono ?_
  rintro e w1 ⟨rfl, ht1, hb1, hs1⟩
  have HT1 : Hid (TbAt w1 w.heap.size false) := ht1
  have HB1 : Hid (Below w.heap.size w w1) := hb1
  clear ht1 hb1
  go_wp2_with fail
  refine (tnew_any w1).mono ?_
  rintro e w2 ⟨rfl, ht2, hb2, hs2⟩
  have HU2 : Hid (TbAt w2 w1.heap.size false) := ht2
  have HT2 : Hid (TbAt w2 w.heap.size false) := HT1.out.below hb2 hs1
  have HB2 : Hid (Below w.heap.size w w2) := HB1.out.trans (hb2.mono (by omega))
  clear ht2 hb2 HT1 HB1
  go_wp2_with fail
  refine (tmade_any w2 w.heap.size false HT2.out).mono ?_
  rintro e w0 ⟨rfl, rfl⟩
  go_wp2_with fail
  go_loopw [7, 8] (fun md i wr => ∃ (m : Bool) (j : Nat), j ≤ 6 ∧ md = .bool m ∧ i = .int .i64 j ∧ Hid (TbAt wr w.heap.size m) ∧ Hid (TbAt wr w1.heap.size false) ∧ Hid (Below w.heap.size w wr) ∧ Hid (w1.heap.size < wr.heap.size)) (fun _ i _ => 6 - (intOf i).toNat)
  case atStart => exact ⟨false, 0, by omega, rfl, rfl, HT2.out, HU2.out, HB2.out, hs2⟩
  case round =>
    obtain ⟨m, j, hj, rfl, rfl, ht, hu, hb, hs⟩ := hrel
    have hsz := hs.out
    by_cases hin : j < len ∧ j < 6
    · obtain ⟨hjl, hj6⟩ := hin
      obtain ⟨b, off, rfl, hbw, hcell, hrow⟩ := HR.out j hjl
      obtain ⟨aj, haj⟩ : ∃ x, x = A j := ⟨_, rfl⟩
      obtain ⟨lj, hlj⟩ : ∃ x, x = L j := ⟨_, rfl⟩
      obtain ⟨cj, hcj⟩ : ∃ x, x = C j := ⟨_, rfl⟩
      rw [← haj, ← hlj, ← hcj] at hcell hrow
      have hcw : wr.cell? ⟨b, off + j, none⟩ = some (.slice aj lj cj) := by rw [hb.out.cell (p := ⟨b, off + j, none⟩) hbw]; exact hcell
      obtain ⟨l, hll, h256, hsl, hc1, hc2, hc3⟩ := cut_row (n := 50) hrow
      have HLL : Hid (min lj 50 = l.length) := hll.symm
      have hl50 : l.length ≤ 50 := by omega
      have HS : Hid (SlAt w (.slice aj l.length cj) l) := by rw [hll]; exact hsl
      have H256 : Hid (∀ x ∈ l, x < 256) := h256
      have HC3 : Hid (aj = none → lj = 0 ∧ cj = 0) := hc3
      have HSUM : Hid (∀ X, X = (crc ones l).toNat → Calls Try.prog 11 #[.pointer (some ⟨w.heap.size, 0, none⟩), .slice aj l.length cj] wr fun e w' => e = .returned (.int .u32 (X : Int)) ∧ TbAt w' w.heap.size (m || !l.isEmpty) ∧ Kept (fun k => k = w.heap.size) wr w') :=
        fun X hX => tsum_at wr w.heap.size m _ l X hX ht.out (HS.out.below hb.out) (fun h k hk => by have := HS.out.lt h k hk; omega) (by omega) H256.out
      have HADD : Hid (∀ X, X = (crc (BitVec.ofNat 32 0) l).toNat → Calls Try.prog 19 #[.pointer (some ⟨w.heap.size, 0, none⟩), .int .u32 0, .slice aj l.length cj] wr fun e w' => e = .returned (.int .u32 (X : Int)) ∧ TbAt w' w.heap.size (m || !l.isEmpty) ∧ Kept (fun k => k = w.heap.size) wr w') :=
        fun X hX => tadd_at wr w.heap.size m 0 _ l X (by decide) hX ht.out (HS.out.below hb.out) (fun h k hk => by have := HS.out.lt h k hk; omega) (by omega) H256.out
      obtain ⟨m', hm'⟩ : ∃ m', m' = (m || !l.isEmpty) := ⟨_, rfl⟩
      rw [← hm'] at HSUM HADD
      have hmade : (m || decide (0 < l.length)) = m' := by rw [hm']; cases l <;> simp
      have hc : (m = true ∧ m' = true) ∨ (m = false ∧ 0 < l.length ∧ m' = true) ∨ (m = false ∧ l.length < 1 ∧ m' = false) := by
        rw [← hmade]
        cases m
        · right
          by_cases h : 0 < l.length
          · left; simp [h]
          · right
            refine ⟨rfl, by omega, ?_⟩
            rw [Bool.false_or]; exact decide_eq_false h
        · left; simp
      clear hcell hrow haj hlj hcj hll h256 hsl hc3 hm' hmade
      have hjl' : decide (j < len) = true := by simp [hjl]
      have hj6' : decide (j < 6) = true := by simp [hj6]
      cases twice
      · skip
        rcases hc with ⟨rfl, rfl⟩ | ⟨rfl, hl0, rfl⟩ | ⟨rfl, hl0, rfl⟩
        · skip
          go_wp2_with fail
          refine (cut_any _ aj lj cj 50 (by decide) hc1 hc2 HC3.out).mono ?_
          rintro e w0 ⟨rfl, rfl⟩
          rw [HLL.out]
          go_wp2_with fail
          refine (HSUM.out _ rfl).mono ?_
          rintro e w3 ⟨rfl, ht3, hk3⟩
          have HT3 : Hid (TbAt w3 w.heap.size true) := ht3
          have HU3 : Hid (TbAt w3 w1.heap.size false) := hu.out.kept hk3 (by omega)
          have HB3 : Hid (Below w.heap.size w w3) := hk3.below_of hb.out (fun k h => by omega) (by omega)
          have hs3 : w1.heap.size < w3.heap.size := Nat.lt_of_lt_of_le hsz hk3.size
          clear ht3 hk3
          go_wp2_with fail
          refine (tmade_any w3 w.heap.size true HT3.out).mono ?_
          rintro e w0 ⟨rfl, rfl⟩
          go_wp2
          go_roundw
          case rel => first | exact ⟨true, j + 1, by omega, rfl, by go_num, HT3.out, HU3.out, HB3.out, hs3⟩ | ((repeat apply Exists.intro); refine ⟨?_, rfl⟩; exact ⟨true, j + 1, by omega, rfl, by go_num, HT3.out, HU3.out, HB3.out, hs3⟩)
          case measure => simp [intOf]; omega
        · have hl0' : decide (0 < l.length) = true := by simp [hl0]
          go_wp2_with fail
          refine (cut_any _ aj lj cj 50 (by decide) hc1 hc2 HC3.out).mono ?_
          rintro e w0 ⟨rfl, rfl⟩
          rw [HLL.out]
          go_wp2_with fail
          refine (HSUM.out _ rfl).mono ?_
          rintro e w3 ⟨rfl, ht3, hk3⟩
          have HT3 : Hid (TbAt w3 w.heap.size true) := ht3
          have HU3 : Hid (TbAt w3 w1.heap.size false) := hu.out.kept hk3 (by omega)
          have HB3 : Hid (Below w.heap.size w w3) := hk3.below_of hb.out (fun k h => by omega) (by omega)
          have hs3 : w1.heap.size < w3.heap.size := Nat.lt_of_lt_of_le hsz hk3.size
          clear ht3 hk3
          go_wp2_with fail
          refine (tmade_any w3 w.heap.size true HT3.out).mono ?_
          rintro e w0 ⟨rfl, rfl⟩
          go_wp2
          go_roundw
          case rel => first | exact ⟨true, j + 1, by omega, rfl, by go_num, HT3.out, HU3.out, HB3.out, hs3⟩ | ((repeat apply Exists.intro); refine ⟨?_, rfl⟩; exact ⟨true, j + 1, by omega, rfl, by go_num, HT3.out, HU3.out, HB3.out, hs3⟩)
          case measure => simp [intOf]; omega
        · have hl0' : decide (0 < l.length) = false := decide_eq_false (by omega)
          go_wp2_with fail
          refine (cut_any _ aj lj cj 50 (by decide) hc1 hc2 HC3.out).mono ?_
          rintro e w0 ⟨rfl, rfl⟩
          rw [HLL.out]
          go_wp2_with fail
          refine (HSUM.out _ rfl).mono ?_
          rintro e w3 ⟨rfl, ht3, hk3⟩
          have HT3 : Hid (TbAt w3 w.heap.size false) := ht3
          have HU3 : Hid (TbAt w3 w1.heap.size false) := hu.out.kept hk3 (by omega)
          have HB3 : Hid (Below w.heap.size w w3) := hk3.below_of hb.out (fun k h => by omega) (by omega)
          have hs3 : w1.heap.size < w3.heap.size := Nat.lt_of_lt_of_le hsz hk3.size
          clear ht3 hk3
          go_wp2_with fail
          refine (tmade_any w3 w.heap.size false HT3.out).mono ?_
          rintro e w0 ⟨rfl, rfl⟩
          go_wp2
          go_roundw
          case rel => first | exact ⟨false, j + 1, by omega, rfl, by go_num, HT3.out, HU3.out, HB3.out, hs3⟩ | ((repeat apply Exists.intro); refine ⟨?_, rfl⟩; exact ⟨false, j + 1, by omega, rfl, by go_num, HT3.out, HU3.out, HB3.out, hs3⟩)
          case measure => simp [intOf]; omega
      · skip
        rcases hc with ⟨rfl, rfl⟩ | ⟨rfl, hl0, rfl⟩ | ⟨rfl, hl0, rfl⟩
        · skip
          go_wp2_with fail
          refine (cut_any _ aj lj cj 50 (by decide) hc1 hc2 HC3.out).mono ?_
          rintro e w0 ⟨rfl, rfl⟩
          rw [HLL.out]
          by_cases hodd : j % 2 = 1
          · have hodd' : ((j : Int) % 2 == 1) = true := by simp; omega
            go_wp2_with fail
            refine (HADD.out _ rfl).mono ?_
            rintro e w3 ⟨rfl, ht3, hk3⟩
            have HT3 : Hid (TbAt w3 w.heap.size true) := ht3
            have HU3 : Hid (TbAt w3 w1.heap.size false) := hu.out.kept hk3 (by omega)
            have HB3 : Hid (Below w.heap.size w w3) := hk3.below_of hb.out (fun k h => by omega) (by omega)
            have hs3 : w1.heap.size < w3.heap.size := Nat.lt_of_lt_of_le hsz hk3.size
            clear ht3 hk3
            go_wp2_with fail
            refine (tmade_any w3 w.heap.size true HT3.out).mono ?_
            rintro e w0 ⟨rfl, rfl⟩
            go_wp2
            go_roundw
            case rel => first | exact ⟨true, j + 1, by omega, rfl, by go_num, HT3.out, HU3.out, HB3.out, hs3⟩ | ((repeat apply Exists.intro); refine ⟨?_, rfl⟩; exact ⟨true, j + 1, by omega, rfl, by go_num, HT3.out, HU3.out, HB3.out, hs3⟩)
            case measure => simp [intOf]; omega
          · have hodd' : ((j : Int) % 2 == 1) = false := by simp; omega
            go_wp2_with fail
            refine (HSUM.out _ rfl).mono ?_
            rintro e w3 ⟨rfl, ht3, hk3⟩
            have HT3 : Hid (TbAt w3 w.heap.size true) := ht3
            have HU3 : Hid (TbAt w3 w1.heap.size false) := hu.out.kept hk3 (by omega)
            have HB3 : Hid (Below w.heap.size w w3) := hk3.below_of hb.out (fun k h => by omega) (by omega)
            have hs3 : w1.heap.size < w3.heap.size := Nat.lt_of_lt_of_le hsz hk3.size
            clear ht3 hk3
            go_wp2_with fail
            refine (tmade_any w3 w.heap.size true HT3.out).mono ?_
            rintro e w0 ⟨rfl, rfl⟩
            go_wp2
            go_roundw
            case rel => first | exact ⟨true, j + 1, by omega, rfl, by go_num, HT3.out, HU3.out, HB3.out, hs3⟩ | ((repeat apply Exists.intro); refine ⟨?_, rfl⟩; exact ⟨true, j + 1, by omega, rfl, by go_num, HT3.out, HU3.out, HB3.out, hs3⟩)
            case measure => simp [intOf]; omega
        · have hl0' : decide (0 < l.length) = true := by simp [hl0]
          go_wp2_with fail
          refine (cut_any _ aj lj cj 50 (by decide) hc1 hc2 HC3.out).mono ?_
          rintro e w0 ⟨rfl, rfl⟩
          rw [HLL.out]
          by_cases hodd : j % 2 = 1
          · have hodd' : ((j : Int) % 2 == 1) = true := by simp; omega
            go_wp2_with fail
            refine (HADD.out _ rfl).mono ?_
            rintro e w3 ⟨rfl, ht3, hk3⟩
            have HT3 : Hid (TbAt w3 w.heap.size true) := ht3
            have HU3 : Hid (TbAt w3 w1.heap.size false) := hu.out.kept hk3 (by omega)
            have HB3 : Hid (Below w.heap.size w w3) := hk3.below_of hb.out (fun k h => by omega) (by omega)
            have hs3 : w1.heap.size < w3.heap.size := Nat.lt_of_lt_of_le hsz hk3.size
            clear ht3 hk3
            go_wp2_with fail
            refine (tmade_any w3 w.heap.size true HT3.out).mono ?_
            rintro e w0 ⟨rfl, rfl⟩
            go_wp2
            go_roundw
            case rel => first | exact ⟨true, j + 1, by omega, rfl, by go_num, HT3.out, HU3.out, HB3.out, hs3⟩ | ((repeat apply Exists.intro); refine ⟨?_, rfl⟩; exact ⟨true, j + 1, by omega, rfl, by go_num, HT3.out, HU3.out, HB3.out, hs3⟩)
            case measure => simp [intOf]; omega
          · have hodd' : ((j : Int) % 2 == 1) = false := by simp; omega
            go_wp2_with fail
            refine (HSUM.out _ rfl).mono ?_
            rintro e w3 ⟨rfl, ht3, hk3⟩
            have HT3 : Hid (TbAt w3 w.heap.size true) := ht3
            have HU3 : Hid (TbAt w3 w1.heap.size false) := hu.out.kept hk3 (by omega)
            have HB3 : Hid (Below w.heap.size w w3) := hk3.below_of hb.out (fun k h => by omega) (by omega)
            have hs3 : w1.heap.size < w3.heap.size := Nat.lt_of_lt_of_le hsz hk3.size
            clear ht3 hk3
            go_wp2_with fail
            refine (tmade_any w3 w.heap.size true HT3.out).mono ?_
            rintro e w0 ⟨rfl, rfl⟩
            go_wp2
            go_roundw
            case rel => first | exact ⟨true, j + 1, by omega, rfl, by go_num, HT3.out, HU3.out, HB3.out, hs3⟩ | ((repeat apply Exists.intro); refine ⟨?_, rfl⟩; exact ⟨true, j + 1, by omega, rfl, by go_num, HT3.out, HU3.out, HB3.out, hs3⟩)
            case measure => simp [intOf]; omega
        · have hl0' : decide (0 < l.length) = false := decide_eq_false (by omega)
          go_wp2_with fail
          refine (cut_any _ aj lj cj 50 (by decide) hc1 hc2 HC3.out).mono ?_
          rintro e w0 ⟨rfl, rfl⟩
          rw [HLL.out]
          by_cases hodd : j % 2 = 1
          · have hodd' : ((j : Int) % 2 == 1) = true := by simp; omega
            go_wp2_with fail
            refine (HADD.out _ rfl).mono ?_
            rintro e w3 ⟨rfl, ht3, hk3⟩
            have HT3 : Hid (TbAt w3 w.heap.size false) := ht3
            have HU3 : Hid (TbAt w3 w1.heap.size false) := hu.out.kept hk3 (by omega)
            have HB3 : Hid (Below w.heap.size w w3) := hk3.below_of hb.out (fun k h => by omega) (by omega)
            have hs3 : w1.heap.size < w3.heap.size := Nat.lt_of_lt_of_le hsz hk3.size
            clear ht3 hk3
            go_wp2_with fail
            refine (tmade_any w3 w.heap.size false HT3.out).mono ?_
            rintro e w0 ⟨rfl, rfl⟩
            go_wp2
            go_roundw
            case rel => first | exact ⟨false, j + 1, by omega, rfl, by go_num, HT3.out, HU3.out, HB3.out, hs3⟩ | ((repeat apply Exists.intro); refine ⟨?_, rfl⟩; exact ⟨false, j + 1, by omega, rfl, by go_num, HT3.out, HU3.out, HB3.out, hs3⟩)
            case measure => simp [intOf]; omega
          · have hodd' : ((j : Int) % 2 == 1) = false := by simp; omega
            go_wp2_with fail
            refine (HSUM.out _ rfl).mono ?_
            rintro e w3 ⟨rfl, ht3, hk3⟩
            have HT3 : Hid (TbAt w3 w.heap.size false) := ht3
            have HU3 : Hid (TbAt w3 w1.heap.size false) := hu.out.kept hk3 (by omega)
            have HB3 : Hid (Below w.heap.size w w3) := hk3.below_of hb.out (fun k h => by omega) (by omega)
            have hs3 : w1.heap.size < w3.heap.size := Nat.lt_of_lt_of_le hsz hk3.size
            clear ht3 hk3
            go_wp2_with fail
            refine (tmade_any w3 w.heap.size false HT3.out).mono ?_
            rintro e w0 ⟨rfl, rfl⟩
            go_wp2
            go_roundw
            case rel => first | exact ⟨false, j + 1, by omega, rfl, by go_num, HT3.out, HU3.out, HB3.out, hs3⟩ | ((repeat apply Exists.intro); refine ⟨?_, rfl⟩; exact ⟨false, j + 1, by omega, rfl, by go_num, HT3.out, HU3.out, HB3.out, hs3⟩)
            case measure => simp [intOf]; omega
    · have hout : ¬ j < len ∨ (j < len ∧ ¬ j < 6) := by omega
      rcases hout with h1 | ⟨h1, h2⟩
      · have h1' : decide (j < len) = false := by simp [h1]
        go_wp2_with fail
        refine (tmade_any wr w1.heap.size false hu.out).mono ?_
        rintro e w0 ⟨rfl, rfl⟩
        go_wp2_with fail
        refine (wakes3_any _).mono ?_
        rintro e w4 ⟨rfl, hb4⟩
        have HB4 : Hid (Below w.heap.size w w4) := hb.out.trans (hb4.mono (by omega))
        clear hb4
        go_wp2
        go_ret
        exact ⟨rfl, HB4.out⟩
      · have h1' : decide (j < len) = true := by simp [h1]
        have h2' : decide (j < 6) = false := by simp [h2]
        go_wp2_with fail
        refine (tmade_any wr w1.heap.size false hu.out).mono ?_
        rintro e w0 ⟨rfl, rfl⟩
        go_wp2_with fail
        refine (wakes3_any _).mono ?_
        rintro e w4 ⟨rfl, hb4⟩
        have HB4 : Hid (Below w.heap.size w w4) := hb.out.trans (hb4.mono (by omega))
        clear hb4
        go_wp2
        go_ret
        exact ⟨rfl, HB4.out⟩

end Go.Proofs.Ythcjgcfmodkiiaa
