/- FrameDecodes: the walk of the law. -/
import Derived.Test.YthkfaackkcdcoabPart14
import Derived.Test.YthkfaackkcdcoabPart15
import Derived.Test.YthkfaackkcdcoabPart02
namespace Go.Proofs.Ythkfaackkcdcoab
set_option linter.unusedVariables false
set_option linter.unusedSimpArgs false
open Go.RowKit Dg

theorem rest_len64 {x l : List Int} (h : (restOut x l).2 = 0) : (restOut x l).1.length ≤ 64 := by
  unfold restOut at h ⊢
  split at h
  · cases h
  · rename_i h1
    rw [if_neg h1]
    split at h
    · rename_i h2
      rw [if_pos h2]
      split at h
      · cases h
      · rename_i y hy
        split at h
        · cases h
        · rename_i h3
          rw [if_neg h3]
          show y.length ≤ 64
          omega
    · cases h
theorem lrest_len64 {x l c : List Int} (h : (lrestOut x l c).2 = 0) : (lrestOut x l c).1.length ≤ 64 := by
  unfold lrestOut at h ⊢
  split at h
  · cases h
  · rename_i h1
    rw [if_neg h1]
    split at h
    · rename_i h2
      rw [if_pos h2]
      split at h
      · cases h
      · rename_i y hy
        split at h
        · cases h
        · rename_i h3
          rw [if_neg h3]
          show y.length ≤ 64
          omega
    · cases h
theorem decD_len {ds : List Bool} {y : List Int} (h : decD ds = some y) : y.length ≤ 64 := by
  unfold decD at h
  obtain ⟨r1, -, h⟩ := Option.bind_eq_some_iff.1 h
  obtain ⟨r2, -, h⟩ := Option.bind_eq_some_iff.1 h
  split at h
  · cases h
  rename_i hg
  obtain ⟨q, hq, h⟩ := Option.bind_eq_some_iff.1 h
  obtain ⟨b, hb, h⟩ := Option.bind_eq_some_iff.1 h
  split at h
  case isFalse => cases h
  cases h
  have hql := sampsT_len _ _ _ hq
  unfold bodyT at hb
  by_cases h0 : r1.1 = 0
  · rw [if_pos h0] at hb; cases hb; simp; omega
  rw [if_neg h0] at hb
  by_cases h1 : r1.1 = 1
  · rw [if_pos h1] at hb; cases hb; rw [hql]; omega
  rw [if_neg h1] at hb
  by_cases h6 : r1.1 ≤ 6
  · rw [if_pos h6] at hb
    obtain ⟨r, -, g2⟩ := Option.bind_eq_some_iff.1 hb
    split at g2
    · rename_i hz; cases g2; exact rest_len64 hz
    · cases g2
  · rw [if_neg h6] at hb
    obtain ⟨c, -, g⟩ := Option.bind_eq_some_iff.1 hb
    obtain ⟨r, -, g2⟩ := Option.bind_eq_some_iff.1 g
    split at g2
    · rename_i hz; cases g2; exact lrest_len64 hz
    · cases g2
theorem SlAt.cutk {w : World} {a : Option Addr} {n cap : Nat} {l : List Nat} (h : SlAt w (.slice a n cap) l) (k : Nat) (m : Nat) (hm : m = (l.take k).length) : SlAt w (.slice a m cap) (l.take k) := by
  subst hm
  obtain ⟨a', c', e, hc⟩ := h
  cases e
  refine ⟨a, cap, rfl, fun j x hx => hc j x ?_⟩
  rw [List.getElem?_take] at hx
  split at hx
  · exact hx
  · cases hx
set_option maxRecDepth 100000 in
set_option maxHeartbeats 4000000 in
theorem ydec_at (W : World) (a : Option Addr) (len cap : Nat) (l0 : List Nat) (hsl : SlAt W (.slice a len cap) l0) (hll : l0.length = len) (hby : ∀ x ∈ l0, x < 256) (hle : len ≤ cap) (hm : cap ≤ maxLen) (h0 : a = none → len = 0 ∧ cap = 0) :
    Calls Try.prog 3 #[.slice a len cap] W fun e W' => e = .returned (.bool true) ∧ Below W.heap.size W W' := by
  obtain ⟨l, hl⟩ : ∃ l, l = l0.take 260 := ⟨_, rfl⟩
  have HLL : Hid (min len 260 = l.length) := by show _ = _; rw [hl, ← hll]; simp; omega
  have hl260 : l.length ≤ 260 := by rw [hl]; simp; omega
  have HSL : Hid (SlAt W (.slice a l.length cap) l) := by rw [hl]; exact hsl.cutk 260 _ rfl
  have HBY : Hid (∀ x ∈ l, x < 256) := by rw [hl]; exact fun x hx => hby x (List.mem_of_mem_take hx)
  have HC : Hid (len ≤ cap ∧ cap ≤ maxLen ∧ (a = none → len = 0 ∧ cap = 0)) := ⟨hle, hm, h0⟩
  obtain ⟨⟨x, k⟩, hR⟩ : ∃ R, R = decOut 2 l := ⟨_, rfl⟩
  have HR := hid_of hR
  have hcase : (k = 2 ∧ kindOut l = -1) ∨ (k = 0 ∧ x.length ≤ 64 ∧ ∃ b : Nat, l[0]? = some b ∧ kindOut l = (b : Int)) := by
    unfold decOut at hR
    cases hd : decD (unpack l) with
    | none => rw [hd] at hR; cases hR; exact .inl ⟨rfl, by unfold kindOut; rw [hd]⟩
    | some y =>
      rw [hd] at hR
      cases hR
      exact .inr ⟨rfl, decD_len hd, kind_first hd⟩
  have hx64 : x.length ≤ 64 := by
    rcases hcase with ⟨h1, h2⟩ | ⟨-, h2, -⟩
    · unfold decOut at hR
      cases hd : decD (unpack l) with
      | none => rw [hd] at hR; cases hR; simp
      | some y => rw [hd] at hR; cases hR; simp at h1
    · exact h2
  clear hsl hll hby hle hm h0 hl hR
  rcases hcase with ⟨rfl, hk⟩ | ⟨rfl, -, b, hb, hk⟩
  · have HK : Hid ((-1 : Int) = kindOut l) := hk.symm
    clear hk
    go_enter Try.func3, Try.ntmps3
    go_wp2_with fail
    refine (cut_any W a len cap 260 (by decide) HC.out.1 HC.out.2.1 HC.out.2.2).mono ?_
    rw [HLL.out]
    rintro e w0 ⟨rfl, rfl⟩
    clear HC HLL
    go_wp2_with fail
    refine (fdec_any W _ l HSL.out (by omega) HBY.out _ HR.out).mono ?_
    rintro e w2 hg
    obtain ⟨a2, c2, rfl, -, hn2, hb2⟩ := hg.ok
    have HB2 := hid_of hb2
    have HN2 := hid_of hn2.at_
    have HS2 := hid_of (HSL.out.below hb2)
    clear hg hb2 hn2
    go_wp2_with fail
    refine (rdec_any w2 _ l HS2.out (by omega) HBY.out _ HR.out).mono ?_
    rintro e w3 hg
    obtain ⟨a3, c3, rfl, -, hn3, hb3⟩ := hg.ok
    have HB3 : Hid (Below W.heap.size W w3) := HB2.out.trans (hb3.mono HB2.out.size)
    have HN3 := hid_of (HN2.out.mono hb3)
    have HM3 := hid_of hn3.at_
    have HS3 := hid_of (HS2.out.below hb3)
    clear hg hb3 hn3 HB2 HN2 HS2
    go_wp2_with fail
    refine (sameInt_any w3 a2 a3 c2 c3 x HN3.out HM3.out (by omega)).mono ?_
    rintro e w4 ⟨rfl, n4, rfl⟩
    go_wp2_with fail
    refine (fkind_any (w3.drewN n4) _ l HS3.out (by omega) HBY.out _ HK.out).mono ?_
    rintro e w5 ⟨rfl, hb5⟩
    have HB5 : Hid (Below W.heap.size W w5) := (below_drewN HB3.out n4).trans (hb5.mono HB3.out.size)
    have hs5 : W.heap.size ≤ w5.heap.size := HB5.out.size
    clear hb5
    go_wp2_with fail
    refine (wakes8_any _).mono ?_
    rintro e w6 ⟨rfl, hb6⟩
    have HB6 : Hid (Below W.heap.size W w6) := HB5.out.trans (hb6.mono hs5)
    clear hb6
    go_wp2
    go_ret
    exact ⟨rfl, HB6.out⟩
  · have HK : Hid ((b : Int) = kindOut l) := hk.symm
    have hlp : 0 < l.length := (List.getElem?_eq_some_iff.1 hb).1
    have hb256 := HBY.out b (List.mem_of_getElem? hb)
    obtain ⟨a', c', e', hcell⟩ := HSL.out
    cases e'
    obtain ⟨bb, off, rfl, hc⟩ := hcell 0 b hb
    rw [Nat.add_zero] at hc
    clear hk hb hcell
    go_enter Try.func3, Try.ntmps3
    go_wp2_with fail
    refine (cut_any W _ len cap 260 (by decide) HC.out.1 HC.out.2.1 HC.out.2.2).mono ?_
    rw [HLL.out]
    rintro e w0 ⟨rfl, rfl⟩
    clear HC HLL
    go_wp2_with fail
    refine (fdec_any W _ l HSL.out (by omega) HBY.out _ HR.out).mono ?_
    rintro e w2 hg
    obtain ⟨a2, c2, rfl, -, hn2, hb2⟩ := hg.ok
    have HB2 := hid_of hb2
    have HN2 := hid_of hn2.at_
    have HS2 := hid_of (HSL.out.below hb2)
    clear hg hb2 hn2
    go_wp2_with fail
    refine (rdec_any w2 _ l HS2.out (by omega) HBY.out _ HR.out).mono ?_
    rintro e w3 hg
    obtain ⟨a3, c3, rfl, -, hn3, hb3⟩ := hg.ok
    have HB3 : Hid (Below W.heap.size W w3) := HB2.out.trans (hb3.mono HB2.out.size)
    have HN3 := hid_of (HN2.out.mono hb3)
    have HM3 := hid_of hn3.at_
    have HS3 := hid_of (HS2.out.below hb3)
    clear hg hb3 hn3 HB2 HN2 HS2
    have hc3 : w3.cell? ⟨bb, off, none⟩ = some (.int .u8 (b : Int)) := (HB3.out.cell (p := ⟨bb, off, none⟩) (World.block_lt_of_cell? W _ hc)).trans hc
    go_wp2_with fail
    refine (sameInt_any w3 a2 a3 c2 c3 x HN3.out HM3.out (by omega)).mono ?_
    rintro e w4 ⟨rfl, n4, rfl⟩
    go_wp2_with fail
    refine (fkind_any (w3.drewN n4) _ l HS3.out (by omega) HBY.out _ HK.out).mono ?_
    rintro e w5 ⟨rfl, hb5⟩
    have HB5 : Hid (Below W.heap.size W w5) := (below_drewN HB3.out n4).trans (hb5.mono HB3.out.size)
    have hs5 : W.heap.size ≤ w5.heap.size := HB5.out.size
    clear hb5
    go_wp2_with fail
    refine (wakes8_any _).mono ?_
    rintro e w6 ⟨rfl, hb6⟩
    have HB6 : Hid (Below W.heap.size W w6) := HB5.out.trans (hb6.mono hs5)
    clear hb6
    go_wp2
    go_ret
    exact ⟨rfl, HB6.out⟩

theorem ydecodes_any (W : World) (a : Option Addr) (len cap : Nat) (z : List Int) (hr : IsRow .u8 W a len cap z) :
    Calls Try.prog 3 #[.slice a len cap] W fun e W' => e = .returned (.bool true) ∧ Below W.heap.size W W' := by
  obtain ⟨l, h1, h2, h3⟩ := hr.bytes
  have hSL : SlAt W (.slice a len cap) l := by
    have := h3 len (Nat.le_refl _)
    rw [List.take_of_length_le (by omega)] at this
    exact this
  rcases hr with ⟨rfl, rfl, rfl, rfl⟩ | ⟨x, rfl, hle, hm, -, -, -⟩
  · exact ydec_at W none 0 0 l hSL h1 h2 (Nat.le_refl _) (by decide) (fun _ => ⟨rfl, rfl⟩)
  · exact ydec_at W _ len cap l hSL h1 h2 hle hm (fun e => by cases e)

end Go.Proofs.Ythkfaackkcdcoab
