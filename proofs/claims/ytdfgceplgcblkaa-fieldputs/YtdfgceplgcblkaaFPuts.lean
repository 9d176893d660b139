/- FieldPuts: the walk of the law. -/
import Derived.Test.YtdfgceplgcblkaaFld2
namespace Go.Proofs.Ytdfgceplgcblkaa
set_option linter.unusedVariables false
set_option linter.unusedSimpArgs false
open Go.RowKit Dg

/-- What Get answers of any bytes. -/
theorem fget_any (w : World) (sv : Value) (l : List Nat) (h : SlAt w sv l) (hl : l.length ≤ 1000000) (h256 : ∀ x ∈ l, x < 256) (m : Nat) (ok : Bool) (hm : (m, ok) = if l.length ≤ 7 then (getN l, true) else (0, false)) :
    Calls Try.prog 12 #[sv] w fun e w' => e = .returned (.tuple #[.int .i64 (m : Int), .bool ok]) ∧ w = w' := by
  by_cases h7 : l.length ≤ 7
  · rw [if_pos h7] at hm
    cases hm
    exact fget_ok w sv l h h7 h256 _ rfl
  · rw [if_neg h7] at hm
    cases hm
    exact fget_bad w sv l h hl (by omega)
/-- What the document's Get answers of any bytes. -/
theorem rgetN_any (w : World) (sv : Value) (l : List Nat) (h : SlAt w sv l) (hl : l.length ≤ 1000000) (h256 : ∀ x ∈ l, x < 256) (m : Nat) (ok : Bool) (hm : (m, ok) = if l.length ≤ 7 then (getN l, true) else (0, false)) :
    Calls Try.prog 15 #[sv] w fun e w' => e = .returned (.tuple #[.int .i64 (m : Int), .bool ok]) ∧ w = w' := by
  by_cases h7 : l.length ≤ 7
  · rw [if_pos h7] at hm
    cases hm
    exact rgetN_ok w sv l h h7 h256 _ rfl
  · rw [if_neg h7] at hm
    cases hm
    exact rgetN_bad w sv l h hl (by omega)

set_option maxHeartbeats 4000000 in
theorem fputs_any (W : World) (n width : Int) (a : Option Addr) (len cap : Nat) (zs : List Int) (hn : I64 n) (hw : I64 width) (hr : IsRow .u8 W a len cap zs) :
    Calls Try.prog 4 #[.int .i64 n, .int .i64 width, .slice a len cap] W fun e W' => e = .returned (.bool true) ∧ Below W.heap.size W W' := by
  obtain ⟨l, hll, h256, hsl, hc1, hc2, hc3⟩ := cut_row (n := 12) hr
  have HLL : Hid (min len 12 = l.length) := hll.symm
  have hl12 : l.length ≤ 12 := by omega
  have HS : Hid (SlAt W (.slice a l.length cap) l) := by rw [hll]; exact hsl
  have H256 : Hid (∀ x ∈ l, x < 256) := h256
  have HC3 : Hid (a = none → len = 0 ∧ cap = 0) := hc3
  have IN : Hid (I64 n) := hn
  have IW : Hid (I64 width) := hw
  obtain ⟨m, ok, hm⟩ : ∃ m ok, (m, ok) = if l.length ≤ 7 then (getN l, true) else (0, false) := ⟨_, _, rfl⟩
  have HM : Hid ((m, ok) = if l.length ≤ 7 then (getN l, true) else (0, false)) := hm
  obtain ⟨N, hN⟩ : ∃ N : Nat, N = n.toNat := ⟨_, rfl⟩
  obtain ⟨k, hk⟩ : ∃ k : Nat, k = min width.toNat 8 := ⟨_, rfl⟩
  have HN : Hid (N = n.toNat) := hN
  have HK : Hid (k = min width.toNat 8) := hk
  have hk8 : k ≤ 8 := by omega
  clear hll h256 hsl hc3 hr hm hN hk hn hw
  go_enter Try.func4, Try.ntmps4
  go_wp2_with fail
  refine (cut_any W a len cap 12 (by decide) hc1 hc2 HC3.out).mono ?_
  rintro e w0 ⟨rfl, rfl⟩
  rw [HLL.out]
  go_wp2_with fail
  refine (fget_any W _ l HS.out (by omega) H256.out m ok HM.out).mono ?_
  rintro e w0 ⟨rfl, rfl⟩
  go_wp2_with fail
  refine (rgetN_any W _ l HS.out (by omega) H256.out m ok HM.out).mono ?_
  rintro e w0 ⟨rfl, rfl⟩
  go_wp2_with fail
  refine (fput_any W n width IN.out IW.out N k HN.out HK.out).mono ?_
  rintro e w1 ⟨rfl, ho1, hb1⟩
  have HO1 : Hid (SlAt w1 (.slice (some ⟨W.heap.size, 0, none⟩) k k) (byteN N k)) := SlAt.of_owns ho1
  have HB1 : Hid (Below W.heap.size W w1) := hb1
  have hs1 : W.heap.size < w1.heap.size := (ho1.lt _ rfl).2
  clear ho1 hb1
  go_wp2_with fail
  refine (rputN_any w1 n width IN.out IW.out N k HN.out HK.out).mono ?_
  rintro e w2 ⟨rfl, ho2, hb2⟩
  have HS1 : Hid (SlAt w2 (.slice (some ⟨W.heap.size, 0, none⟩) k k) (byteN N k)) := HO1.out.below hb2
  have HS2 : Hid (SlAt w2 (.slice (some ⟨w1.heap.size, 0, none⟩) k k) (byteN N k)) := SlAt.of_owns ho2
  have HB2 : Hid (Below W.heap.size W w2) := HB1.out.trans (hb2.mono (by omega))
  have hs2 : w1.heap.size < w2.heap.size := (ho2.lt _ rfl).2
  clear ho2 hb2 HO1 HB1
  go_wp2_with fail
  refine (same_any _ _ _ _ HS1.out HS2.out (by simp; omega)).mono ?_
  rintro e w3 ⟨rfl, n3, hw3⟩
  have HB3 : Hid (Below W.heap.size W w3) := by rw [hw3]; exact below_drewN HB2.out n3
  have hs3 : w1.heap.size < w3.heap.size := by rw [hw3]; exact hs2
  clear hw3 HS1 HS2 HB2
  go_wp2_with fail
  refine (wakes4_any w3).mono ?_
  rintro e w4 ⟨rfl, hb4⟩
  have HB4 : Hid (Below W.heap.size W w4) := HB3.out.trans (hb4.mono (by omega))
  clear hb4
  go_wp2
  go_ret
  exact ⟨rfl, HB4.out⟩

end Go.Proofs.Ytdfgceplgcblkaa
