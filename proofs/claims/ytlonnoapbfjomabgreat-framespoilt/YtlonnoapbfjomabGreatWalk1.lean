/- Walks over the small functions of the seat, and over add. -/
import Derived.Test.YtlonnoapbfjomabGreatRows
import Derived.Test.YtlonnoapbfjomabGreatBase
import Derived.Test.YtlonnoapbfjomabGreatMath
import Derived.BigRegion
import Derived.Deep.QuietTactic
import Derived.BigQuiet
namespace Go.Proofs.YtlonnoapbfjomabGreat
set_option linter.unusedVariables false
set_option linter.unusedSimpArgs false
open Go.RowKit Dg

theorem Tryz.info5 : (Tryz.prog.info? 5).map (fun i => (i.zero, i.size, i.bytes)) = some (some (.int .u8 0), 1, 1) := by kernel_rfl

theorem ret_int {k : IntKind} {a b : Int} (h : a = b) : Ending.returned (.int k a) = .returned (.int k b) := by rw [h]

theorem tmod_pos {v n : Int} (h : 0 ≤ v.tmod n) (hn : 1 ≤ n) : v.tmod n = v % n := by
  by_cases hv : 0 ≤ v
  · exact Int.tmod_eq_emod_of_nonneg hv
  · have h1 := Int.tmod_def v n
    have h2 : v.tmod n ≤ 0 := by
      have := Int.tmod_nonneg n (show 0 ≤ -v by omega)
      rw [Int.neg_tmod] at this; omega
    have h3 : v.tmod n = 0 := by omega
    have h4 : v % n = 0 := by
      apply Int.emod_eq_zero_of_dvd
      exact Int.dvd_of_tmod_eq_zero h3
    omega
theorem tmod_neg {v n : Int} (h : v.tmod n < 0) (hn : 1 ≤ n) : v.tmod n + n = v % n := by
  have hv : v < 0 := by
    by_cases hv : 0 ≤ v
    · have := Int.tmod_nonneg n hv; omega
    · omega
  have e := Int.tmod_eq_emod (a := v) (b := n)
  rw [e] at h ⊢
  have h0 : ¬ 0 ≤ v := by omega
  by_cases hd : n ∣ v
  · have := Int.emod_eq_zero_of_dvd hd
    simp [hd] at h
    omega
  · simp [h0, hd]
    omega

set_option maxHeartbeats 400000 in
theorem within_any (v n : Int) (w : World) (hv1 : -9223372036854775808 ≤ v) (hv2 : v ≤ 9223372036854775807) (hn1 : 1 ≤ n) (hn2 : n ≤ 4611686018427387904) :
    Calls Tryz.prog 5 #[.int .i64 v, .int .i64 n] w fun e w' => e = .returned (.int .i64 (v % n)) ∧ w = w' := by
  have hb1 : -n < v.tmod n := by have := Int.lt_tmod_of_pos v (show 0 < n by omega); omega
  have hb2 : v.tmod n < n := Int.tmod_lt_of_pos v (by omega)
  go_enter Tryz.func5, Tryz.ntmps5
  go_wp2
  · go_ret
    exact ⟨ret_int (tmod_neg ‹_› hn1), rfl⟩
  · go_ret
    exact ⟨ret_int (tmod_pos ‹_› hn1), rfl⟩

set_option maxHeartbeats 400000 in
theorem newWriter_raw (w : World) :
    Calls Tryz.prog 49 #[] w fun e w' => e = .returned (.pointer (some ⟨w.heap.size, 0, none⟩)) ∧ w' = w.alloc (.cells #[.slice none 0 0, .int .i64 0] 80) := by
  go_enter Tryz.func49, Tryz.ntmps49
  go_wp2
  go_ret
  exact ⟨rfl, rfl⟩

set_option maxHeartbeats 400000 in
theorem len_raw (w : World) (b : Nat) (n : Int) (h1 : w.cell? ⟨b, 1, none⟩ = some (.int .i64 n)) :
    Calls Tryz.prog 28 #[.pointer (some ⟨b, 0, none⟩)] w fun e w' => e = .returned (.int .i64 n) ∧ w' = w := by
  go_enter Tryz.func28, Tryz.ntmps28
  go_wp2
  go_ret
  exact ⟨rfl, rfl⟩

set_option maxHeartbeats 1000000 in
theorem add_room (w : World) (b g cap cnt : Nat) (d x : Int) (hbg : b ≠ g)
    (hc : ((cnt : Int) % 8 == 0) = false) (hcap : cnt / 8 < cap) (hlt : cnt < 4611686018427387904) (n : Nat) (hn : cnt / 8 < n)
    (hb0 : w.cell? ⟨b, 0, none⟩ = some (.slice (some ⟨g, 0, none⟩) n cap)) (hb1 : w.cell? ⟨b, 1, none⟩ = some (.int .i64 cnt))
    (fb0 : w.frozen? ⟨b, 0, none⟩ = false) (fb1 : w.frozen? ⟨b, 1, none⟩ = false)
    (hx : w.cell? ⟨g, cnt / 8, none⟩ = some (.int .u8 x)) (fx : w.frozen? ⟨g, cnt / 8, none⟩ = false) :
    Calls Tryz.prog 70 #[.pointer (some ⟨b, 0, none⟩), .int .u8 d] w fun e w' => e = .returned (.tuple #[]) ∧
      w' = ((w.setCell ⟨g, cnt / 8, none⟩ (.int .u8 (bits BinOp.or IntKind.u8 x (d * 2 ^ (7 - cnt % 8) % 256)))).setCell ⟨b, 1, none⟩ (.int .i64 (cnt + 1))).drew := by
  go_enter Tryz.func70, Tryz.ntmps70
  go_wp2
  go_region
  all_goals go_wp2
  all_goals go_end0
  all_goals exact ⟨rfl, rfl⟩

set_option maxHeartbeats 1000000 in
theorem add_new (w : World) (b cnt : Nat) (d : Int) (rv : Value) (xs : List Value)
    (hc : ((cnt : Int) % 8 == 0) = true) (hlt : cnt < 4398046511104) (hbs : b < w.heap.size)
    (hb0 : w.cell? ⟨b, 0, none⟩ = some rv) (hb1 : w.cell? ⟨b, 1, none⟩ = some (.int .i64 cnt))
    (fb0 : w.frozen? ⟨b, 0, none⟩ = false) (fb1 : w.frozen? ⟨b, 1, none⟩ = false)
    (hown : w.ownsRow (b + 1) 5 1 rv (cnt / 8) xs) :
    Calls Tryz.prog 70 #[.pointer (some ⟨b, 0, none⟩), .int .u8 d] w fun e w' => e = .returned (.tuple #[]) ∧
      ∃ w1 g cap, b < g ∧ w1.ownsRow (b + 1) 5 1 (.slice (some ⟨g, 0, none⟩) (cnt / 8 + 1) cap) (cnt / 8 + 1) (xs ++ [.int .u8 0]) ∧ (w.alloc (.cells #[.int .u8 0] 5)).grownBy w1 rv.ownBlock ∧ (rv.ownBlock = some g ∨ w.heap.size ≤ g) ∧
      w' = (((w1.setCell ⟨b, 0, none⟩ (.slice (some ⟨g, 0, none⟩) (cnt / 8 + 1) cap)).setCell ⟨g, cnt / 8, none⟩ (.int .u8 (bits BinOp.or IntKind.u8 0 (d * 2 ^ (7 - cnt % 8) % 256)))).setCell ⟨b, 1, none⟩ (.int .i64 (cnt + 1))).drew := by
  obtain ⟨i0, hi, hz0, hz1, hz2⟩ := info_parts Tryz.info5
  have H : Hid (w.ownsRow (b + 1) 5 1 rv (cnt / 8) xs) := hown
  clear hown
  go_enter Tryz.func70, Tryz.ntmps70
  go_wp2_with (at_builtin; refine wpList_append_mine _ rfl (.tmp 14) (.tmp 15) 25 rfl (b + 1) 5 i0 (.int .u8 0) 1 1 Tryz.underlying25 hi hz0 hz1 hz2 rfl (by decide) rv (cnt / 8) xs rfl (H.out.alloc _) ⟨w.heap.size, 0, none⟩ 1 1 [.int .u8 0] rfl rfl ?c1 ?c2 (by decide) ?b1 ?b2 ?b3 ?_)
  case c1 => intro j u hj; match j, hj with | 0, hj => simp at hj; subst hj; simp [Addr.add]
  case c2 => intro u hu; simp at hu; subst hu; rfl
  case b1 => unfold maxLen; omega
  case b2 => omega
  case b3 => simp; omega
  intro g cap w1 H1 HG HN
  have hne : some b ≠ rv.ownBlock := fun e => by have := (H.out.lt b e.symm).1; omega
  have hk : w1.heap[b]? = w.heap[b]? := by rw [HG.out.block b (by simp; omega) hne]; exact Below.heap_alloc w _ b hbs
  have hb0' : w1.cell? ⟨b, 0, none⟩ = some rv := by rw [World.cell?_of_block (w := w) hk]; exact hb0
  have hb1' : w1.cell? ⟨b, 1, none⟩ = some (.int .i64 cnt) := by rw [World.cell?_of_block (w := w) hk]; exact hb1
  have fb0' : w1.frozen? ⟨b, 0, none⟩ = false := by rw [World.frozen?_of_block (w := w) hk]; exact fb0
  have fb1' : w1.frozen? ⟨b, 1, none⟩ = false := by rw [World.frozen?_of_block (w := w) hk]; exact fb1
  have hex : b < g ∧ cnt / 8 < cap ∧ w1.cell? ⟨g, cnt / 8, none⟩ = some (.int .u8 0) ∧ w1.frozen? ⟨g, cnt / 8, none⟩ = false := by
    have hl := H.out.1
    rcases H1.out.2 with ⟨e1, e2⟩ | ⟨g', cap', cur, hv, hgb, hh, hncap, _, hcs, htake⟩
    · omega
    · cases hv
      refine ⟨by omega, by omega, ?_, ?_⟩
      · have e : (xs ++ [Value.int .u8 0])[cnt / 8]? = some (.int .u8 0) := by
          rw [List.getElem?_append_right (by omega)]; simp [hl]
        rw [← htake, List.getElem?_take, if_pos (by omega)] at e
        simp only [World.cell?, hh]
        simpa using e
      · simp [World.frozen?, hh]
  clear hk hne
  obtain ⟨hbg, hcap, hx, fx⟩ := hex
  have hgne : g ≠ b := by omega
  go_wp2
  go_region
  all_goals go_wp2
  all_goals go_end0
  all_goals exact ⟨rfl, w1, g, cap, hbg, H1.out, HG.out, HN.out.imp id (fun h => by first | omega | (simp at h; omega)), rfl⟩

end Go.Proofs.YtlonnoapbfjomabGreat
