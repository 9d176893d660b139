/- The texts Zigs, Frm1, Lpc3, Lpc4, Lev5, Lev6, Frm2, Frm3, Frm4, Own, Frm5, Enc4, Enc5, Rice8, Frm6, Dec1, Frm7, Dec2, Dec3, FrmP, one behind the other. -/
import Derived.Test.YtejgkgnocgplbaaPart03
import Derived.Test.YtejgkgnocgplbaaPart02
import Derived.Test.YtejgkgnocgplbaaPart06
import Derived.BigQuiet
import Derived.Test.YtejgkgnocgplbaaPart05
import Derived.Deep.CutRange
import Derived.Deep.RegionWith
import Derived.Test.YtejgkgnocgplbaaPart04
import Derived.Laws.AppendOwnNone
import Derived.Laws.IdiomStrings
import Derived.Lib.AppendZeros

/- RiceZigs: the walk. -/
namespace Go.Proofs.Ytejgkgnocgplbaa
set_option linter.unusedVariables false
set_option linter.unusedSimpArgs false
open Go.RowKit Dg

theorem zag_zig (n : Int) (h1 : -1099511627776 ≤ n) (h2 : n < 1099511627776) : zagOf (zigOf n) = n ∧ 0 ≤ zigOf n := by
  unfold zigOf
  rw [if_neg (by omega)]
  by_cases h : n < 0
  · rw [if_pos h]
    unfold zagOf
    rw [if_neg (by omega), if_pos (by omega)]
    omega
  · rw [if_neg h]
    unfold zagOf
    rw [if_neg (by omega), if_neg (by omega)]
    omega
theorem zig_zag (n : Int) (h1 : 0 ≤ n) (h2 : n < 2199023255552) : zigOf (zagOf n) = n := by
  unfold zagOf
  rw [if_neg (by omega)]
  by_cases h : n % 2 = 1
  · rw [if_pos h]
    unfold zigOf
    rw [if_neg (by omega), if_pos (by omega)]
    omega
  · rw [if_neg h]
    unfold zigOf
    rw [if_neg (by omega), if_neg (by omega)]
    omega

end Go.Proofs.Ytejgkgnocgplbaa

/- The document's own digits of a sample, of residuals. -/
namespace Go.Proofs.Ytejgkgnocgplbaa
set_option linter.unusedVariables false
set_option linter.unusedSimpArgs false
open Go.RowKit Dg

theorem OfAt.bt {w wr : World} {v : Value} {ds : List Bool} (h : OfAt w wr v ds) : BtAt wr v ds := BtAt.of_owns h.1
theorem OfAt.low {w w1 wr : World} {v : Value} {ds : List Bool} (h : OfAt w1 wr v ds) (hb : Below w.heap.size w w1) : OfAt w wr v ds := ⟨ownsRow_base h.1 hb.size, hb.trans (h.2.mono hb.size)⟩
theorem OfAt.drewN {w wr : World} {v : Value} {ds : List Bool} (h : OfAt w wr v ds) (n : Nat) : OfAt w (wr.drewN n) v ds := ⟨h.1, below_drewN h.2 n⟩
theorem BtAt.none (w : World) : BtAt w (.slice none 0 0) [] := .inl ⟨rfl, rfl⟩
theorem zigs_get {l : List Int} {k : Nat} {x : Int} (h : l[k]? = some x) : (zigs l)[k]? = some (zigOf x) := by unfold zigs; rw [List.getElem?_map, h]; rfl
theorem zigs_take (l : List Int) (k : Nat) : (zigs l).take k = zigs (l.take k) := by simp [zigs, List.map_take]

end Go.Proofs.Ytejgkgnocgplbaa

/- The document's own answers of chapter 6: down, Guess, MayCoefs. -/
namespace Go.Proofs.Ytejgkgnocgplbaa
set_option linter.unusedVariables false
set_option linter.unusedSimpArgs false
open Go.RowKit Dg

theorem tdiv_low {s : Int} (h : s < 0) (h0 : s.tmod 4096 = 0) : s.tdiv 4096 = s / 4096 := by
  have h1 := Int.mul_tdiv_add_tmod s 4096
  omega
theorem tdiv_down {s : Int} (h : s < 0) (h0 : s.tmod 4096 ≠ 0) : s.tdiv 4096 - 1 = s / 4096 := by
  have h1 := Int.mul_tdiv_add_tmod s 4096
  have h2 : s.tmod 4096 = -((-s).tmod 4096) := by rw [Int.neg_tmod]; omega
  have h3 : (-s).tmod 4096 = (-s) % 4096 := Int.tmod_eq_emod_of_nonneg (by omega)
  omega
end Go.Proofs.Ytejgkgnocgplbaa

/- The document's own LpcResidual and LpcRestore. -/
namespace Go.Proofs.Ytejgkgnocgplbaa
set_option linter.unusedVariables false
set_option linter.unusedSimpArgs false
open Go.RowKit Dg

end Go.Proofs.Ytejgkgnocgplbaa

/- The document's own Auto and Scaled; its example. -/
namespace Go.Proofs.Ytejgkgnocgplbaa
set_option linter.unusedVariables false
set_option linter.unusedSimpArgs false
open Go.RowKit Dg

theorem autoL_take (x : List Int) {k n : Nat} (h : k ≤ n) : (autoL x n).take k = autoL x k := by
  unfold autoL
  rw [← List.map_take, List.take_range, Nat.min_eq_left h]

theorem pow_fit {t : Nat} (h : t ≤ 31) : wrap64 (2 ^ t) = 2 ^ t ∧ (1 : Int) ≤ 2 ^ t ∧ (2 : Int) ^ t ≤ 4611686018427387904 := by
  have h1 : (1 : Int) ≤ 2 ^ t := Int.pow_pos (by decide)
  have h2 : (2 : Nat) ^ t ≤ 2 ^ 31 := Nat.pow_le_pow_right (by decide) h
  have h3 : (2 : Int) ^ t = ((2 ^ t : Nat) : Int) := by simp
  refine ⟨Go.IntWalk.wrap64_in _ ?_, h1, ?_⟩
  · rw [h3]; omega
  · rw [h3]; omega
theorem scaleL_next {l : List Int} {s k : Nat} {x : Int} (h : l[k]? = some x) : (scaleL l s).take (k + 1) = (scaleL l s).take k ++ [x / 2 ^ s] := take_next _ _ _ (scaleL_get h)

end Go.Proofs.Ytejgkgnocgplbaa

/- The document's own Coefficients. -/
namespace Go.Proofs.Ytejgkgnocgplbaa
set_option linter.unusedVariables false
set_option linter.unusedSimpArgs false
open Go.RowKit Dg

/-- The coefficients as the document keeps them: a nought ahead, noughts behind. -/
def row (cs : List Int) (n : Nat) : List Int := 0 :: (cs ++ List.replicate (n - cs.length) 0)
theorem length_row {cs : List Int} {n : Nat} (h : cs.length ≤ n) : (row cs n).length = n + 1 := by simp [row]; omega
theorem row_get {cs : List Int} {n j : Nat} {x : Int} (h : cs[j]? = some x) : (row cs n)[j + 1]? = some x := by
  unfold row
  have hj : j < cs.length := (List.getElem?_eq_some_iff.1 h).1
  rw [List.getElem?_cons_succ, List.getElem?_append_left hj]
  exact h
theorem row_none (n : Nat) : List.replicate (n + 1) 0 = row [] n := by simp [row, List.replicate_succ]
/-- The row within a step: the first numbers are new. -/
def mid (T cs : List Int) (n m : Nat) : List Int := 0 :: (T.take m ++ cs.drop m ++ List.replicate (n - cs.length) 0)
theorem mid_zero (T cs : List Int) (n : Nat) : mid T cs n 0 = row cs n := by simp [mid, row]
theorem mid_get {T cs : List Int} {n m : Nat} {x : Int} (hT : cs.length ≤ T.length) (h : cs[m]? = some x) : (mid T cs n m)[m + 1]? = some x := by
  unfold mid
  have hm : m < cs.length := (List.getElem?_eq_some_iff.1 h).1
  have hl : (T.take m).length = m := by simp; omega
  rw [List.getElem?_cons_succ, List.append_assoc, List.getElem?_append_right (by omega), hl, Nat.sub_self, List.getElem?_append_left (by simp; omega), List.getElem?_drop, Nat.add_zero]
  exact h
theorem mid_set {T cs : List Int} {n m : Nat} {y : Int} (hT : cs.length ≤ T.length) (hm : m < cs.length) (hy : T[m]? = some y) : (mid T cs n m).set (m + 1) y = mid T cs n (m + 1) := by
  unfold mid
  have hl : (T.take m).length = m := by simp; omega
  rw [List.set_cons_succ, List.append_assoc, List.set_append_right _ _ (by omega), hl, Nat.sub_self, take_next T m y hy]
  have e : cs.drop m = cs[m] :: cs.drop (m + 1) := List.drop_eq_getElem_cons hm
  rw [e, List.cons_append, List.set_cons_zero]
  simp
theorem mid_end {T cs : List Int} {n : Nat} {y : Int} (hT : T.length = cs.length + 1) (hn : cs.length < n) (hy : T[cs.length]? = some y) : (mid T cs n cs.length).set (cs.length + 1) y = row T n := by
  unfold mid row
  have hl : (T.take cs.length).length = cs.length := by simp; omega
  have e : n - cs.length = (n - T.length) + 1 := by omega
  rw [List.drop_length, List.append_nil, List.set_cons_succ, List.set_append_right _ _ (by omega), hl, Nat.sub_self, e, List.replicate_succ, List.set_cons_zero]
  have e2 : T = T.take cs.length ++ [y] := by
    have := take_next T cs.length y hy
    rw [List.take_of_length_le (by omega)] at this
    exact this
  conv => rhs; rw [e2]
  simp
  omega
theorem mid_last {T cs : List Int} {n : Nat} (hT : cs.length ≤ T.length) (hn : cs.length < n) : (mid T cs n cs.length)[cs.length + 1]? = some 0 := by
  unfold mid
  have hl : (T.take cs.length).length = cs.length := by simp; omega
  have e : n - cs.length = (n - cs.length - 1) + 1 := by omega
  rw [List.drop_length, List.append_nil, List.getElem?_cons_succ, List.getElem?_append_right (by omega), hl, Nat.sub_self, e, List.replicate_succ]
  rfl
theorem length_mid {T cs : List Int} {n m : Nat} (hT : cs.length ≤ T.length) (hm : m ≤ cs.length) (hn : cs.length ≤ n) : (mid T cs n m).length = n + 1 := by
  simp [mid]; omega
theorem row_drop {cs : List Int} {n : Nat} (h : cs.length = n) : (row cs n).drop 1 = cs := by
  simp [row, h]

end Go.Proofs.Ytejgkgnocgplbaa

/- The document's own digits of a frame, kind by kind. -/
namespace Go.Proofs.Ytejgkgnocgplbaa
set_option linter.unusedVariables false
set_option linter.unusedSimpArgs false
open Go.RowKit Dg

theorem mayZ_of {x : List Int} (h : mayX x) : 0 = mayZ x := by
  unfold mayZ
  rw [if_pos h.2.2, if_neg (by have := h.2.1; omega)]
theorem mayZ_not {x : List Int} (h1 : 1 ≤ x.length) (h : ¬ mayX x) : (mayZ x != 0) = true := by
  unfold mayZ
  by_cases hS : allS x
  · rw [if_pos hS]
    by_cases h64 : 64 < x.length
    · rw [if_pos h64]; rfl
    · exact absurd ⟨h1, by omega, hS⟩ h
  · rw [if_neg hS]; rfl
/-- What digits answers. -/
def DigAt (w w' : World) (F : Option (List Bool)) (e : Ending) : Prop :=
  match F with
  | none => ∃ v', e = .returned (.tuple #[v', .bool false]) ∧ Below w.heap.size w w'
  | some D => ∃ v', e = .returned (.tuple #[v', .bool true]) ∧ OfAt w w' v' D

end Go.Proofs.Ytejgkgnocgplbaa

/- The document's own digits of a frame: the fixed kinds. -/
namespace Go.Proofs.Ytejgkgnocgplbaa
set_option linter.unusedVariables false
set_option linter.unusedSimpArgs false
open Go.RowKit Dg

end Go.Proofs.Ytejgkgnocgplbaa

/- The document's own digits of a frame: LPC, and any kind. -/
namespace Go.Proofs.Ytejgkgnocgplbaa
set_option linter.unusedVariables false
set_option linter.unusedSimpArgs false
open Go.RowKit Dg

end Go.Proofs.Ytejgkgnocgplbaa

/- Rows of bytes of the call's own: cells, parts, copies; a cut slice of bytes. -/
namespace Go.Proofs.Ytejgkgnocgplbaa
set_option linter.unusedVariables false
set_option linter.unusedSimpArgs false
open Go.RowKit Dg

/-- What a cut slice of bytes is. -/
theorem cut_row {w : World} {a : Option Addr} {len cap n : Nat} {zs : List Int} (hr : IsRow .u8 w a len cap zs) :
    ∃ l : List Nat, l.length = min len n ∧ (∀ x ∈ l, x < 256) ∧ SlAt w (.slice a (min len n) cap) l ∧ len ≤ cap ∧ cap ≤ maxLen ∧ (a = none → len = 0 ∧ cap = 0) := by
  obtain ⟨l0, hl0, hl256, hsl⟩ := hr.bytes
  have hcut : len ≤ cap ∧ cap ≤ maxLen ∧ (a = none → len = 0 ∧ cap = 0) := by
    rcases hr with ⟨rfl, rfl, rfl, rfl⟩ | ⟨x, rfl, hle, hm, hz, hc, hwf⟩
    · exact ⟨Nat.le_refl _, by decide, fun _ => ⟨rfl, rfl⟩⟩
    · exact ⟨hle, hm, fun h => by cases h⟩
  exact ⟨l0.take (min len n), by simp; omega, fun x hx => hl256 x (List.mem_of_mem_take hx), hsl _ (by omega), hcut⟩
theorem SlAt.lt {w : World} {v : Value} {l : List Nat} (h : SlAt w v l) (hne : l ≠ []) : ∀ k, v.ownBlock = some k → k < w.heap.size := by
  obtain ⟨a1, c1, rfl, hc1⟩ := h
  have hpos : 0 < l.length := List.length_pos_iff.2 hne
  obtain ⟨b1, o1, rfl, e⟩ := hc1 0 l[0] (by simp)
  intro k hk
  cases hk
  exact World.block_lt_of_cell? w _ e
theorem SlAt.kept' {w w' : World} {v : Value} {l : List Nat} {F : Nat → Prop} (h : SlAt w v l) (hk : Kept F w w') (hF : l ≠ [] → ∀ k, v.ownBlock = some k → ¬ F k) : SlAt w' v l := by
  by_cases hne : l = []
  · subst hne
    obtain ⟨a1, c1, rfl, _⟩ := h
    exact ⟨a1, c1, rfl, fun j x hx => by simp at hx⟩
  · exact h.kept hk (hF hne)
theorem SlAt.drewN {w : World} {v : Value} {l : List Nat} (h : SlAt w v l) (n : Nat) : SlAt (w.drewN n) v l := h
theorem SlAt.of_row {w : World} {g : Nat} {l r : List Nat} {c : Nat} (h : RowIs w g (u8s (l ++ r))) : SlAt w (.slice (some ⟨g, 0, none⟩) l.length c) l := by
  refine ⟨some ⟨g, 0, none⟩, c, rfl, fun j x hx => ⟨g, 0, rfl, ?_⟩⟩
  have hj : j < l.length := (List.getElem?_eq_some_iff.1 hx).1
  rw [Nat.zero_add]
  exact h.cell (by rw [u8s_get, List.getElem?_append_left hj, hx]; rfl)
/-- A row of bytes of the call's own. -/
def OwnBytes (w : World) (base : Nat) (v : Value) (l : List Nat) : Prop := w.ownsRow base 5 1 v l.length (u8s l)
set_option maxHeartbeats 1000000 in
theorem copyB_any (w : World) (sv : Value) (l : List Nat) (h : SlAt w sv l) (hl : l.length ≤ 1000000) (h0 : ∀ n c, sv = .slice none n c → c = 0) :
    Calls Try.prog 16 #[sv] w fun e w' => ∃ v, e = .returned v ∧ OwnBytes w' w.heap.size v l ∧ Below w.heap.size w w' := by
  obtain ⟨i0, hi, hz0, hz1, hz2⟩ := info_parts Try.info5
  obtain ⟨a1, c1, rfl, hc1⟩ := h
  have HC : Hid (∀ j x, l[j]? = some x → ∃ b off, a1 = some ⟨b, off, none⟩ ∧ w.cell? ⟨b, off + j, none⟩ = some (.int .u8 ((x : Nat) : Int))) := hc1
  clear hc1
  by_cases hne : l = []
  · subst hne
    cases a1 with
    | none =>
      obtain rfl : c1 = 0 := h0 _ _ rfl
      go_enter Try.func16, Try.ntmps16
      go_wp2_with (at_builtin; go_must (refine wpList_append_own_none rfl _ (.tmp 3) 32 rfl w.heap.size 5 i0 1 Try.underlying32 hi (.slice none 0 0) 0 [] rfl (World.ownsRow_nil _ _ _ _) rfl ?_))
      go_ret
      exact ⟨_, rfl, World.ownsRow_nil _ _ _ _, Below.refl _ _⟩
    | some x =>
      go_enter Try.func16, Try.ntmps16
      go_wp2_with (at_builtin; go_must (refine wpList_append_own _ rfl _ (.tmp 3) 32 rfl w.heap.size 5 i0 (.int .u8 0) 1 1 Try.underlying32 hi hz0 hz1 hz2 rfl (by decide) (.slice none 0 0) 0 [] rfl (World.ownsRow_nil _ _ _ _) x 0 c1 [] rfl (by simp) ?c1 ?c2 ?b1 ?b2 (Nat.le_refl _) ?_))
      case c1 => intro j u hu; simp at hu
      case c2 => intro u hu; simp at hu
      case b1 => decide
      case b2 => decide
      intro v' w' ho' hg' _
      have H1 : Hid (OwnBytes w' w.heap.size v' []) := by show World.ownsRow _ _ _ _ _ _ _; simpa [u8s] using ho'
      have H2 : Hid (Below w.heap.size w w') := (Below.refl _ _).grown hg' (Nat.le_refl _) (fun k hk => by cases hk)
      clear ho' hg'
      go_wp2
      go_ret
      exact ⟨_, rfl, H1.out, H2.out⟩
  · have hpos : 0 < l.length := List.length_pos_iff.2 hne
    obtain ⟨b1, o1, rfl, _⟩ := HC.out 0 l[0] (by simp)
    go_enter Try.func16, Try.ntmps16
    go_wp2_with (at_builtin; go_must (refine wpList_append_own _ rfl _ (.tmp 3) 32 rfl w.heap.size 5 i0 (.int .u8 0) 1 1 Try.underlying32 hi hz0 hz1 hz2 rfl (by decide) (.slice none 0 0) 0 [] rfl (World.ownsRow_nil _ _ _ _) ⟨b1, o1, none⟩ l.length c1 (u8s l) rfl (by simp) ?c1 ?c2 ?b1 ?b2 (Nat.le_refl _) ?_))
    case c1 =>
      intro j u hu
      rw [u8s_get] at hu
      obtain ⟨x, hx, rfl⟩ := Option.map_eq_some_iff.1 hu
      obtain ⟨b, off, e, hc⟩ := HC.out j x hx
      cases e
      have hadd : (⟨b1, o1, none⟩ : Addr).add j = ⟨b1, o1 + j, none⟩ := by simp [Addr.add]
      rw [hadd]
      exact hc
    case c2 => intro u hu; simp [u8s] at hu; obtain ⟨x, _, rfl⟩ := hu; rfl
    case b1 => unfold maxLen; omega
    case b2 => omega
    intro v' w' ho' hg' _
    have H1 : Hid (OwnBytes w' w.heap.size v' l) := by show World.ownsRow _ _ _ _ _ _ _; simpa using ho'
    have H2 : Hid (Below w.heap.size w w') := (Below.refl _ _).grown hg' (Nat.le_refl _) (fun k hk => by cases hk)
    clear ho' hg'
    go_wp2
    go_ret
    exact ⟨_, rfl, H1.out, H2.out⟩
set_option maxHeartbeats 1000000 in
/-- Same at unlike bytes. -/
theorem same_not (w : World) (v1 v2 : Value) (l1 l2 : List Nat) (h1 : SlAt w v1 l1) (h2 : SlAt w v2 l2) (hll : l2.length = l1.length) (hl : l1.length ≤ 1000000) (hne : l1 ≠ l2) :
    Calls Try.prog 10 #[v1, v2] w fun e w' => e = .returned (.bool false) ∧ ∃ n, w' = w.drewN n := by
  obtain ⟨a1, c1, rfl, hc1⟩ := h1
  obtain ⟨a2, c2, rfl, hc2⟩ := h2
  rw [hll]
  have H1 : Hid (∀ j x, l1[j]? = some x → ∃ b off, a1 = some ⟨b, off, none⟩ ∧ w.cell? ⟨b, off + j, none⟩ = some (.int .u8 ((x : Nat) : Int))) := hc1
  have H2 : Hid (∀ j x, l2[j]? = some x → ∃ b off, a2 = some ⟨b, off, none⟩ ∧ w.cell? ⟨b, off + j, none⟩ = some (.int .u8 ((x : Nat) : Int))) := hc2
  have HLL : Hid (l2.length = l1.length) := hll
  have HNE : Hid (l1 ≠ l2) := hne
  clear hc1 hc2 hll hne
  go_enter Try.func10, Try.ntmps10
  go_wp2
  go_loopw [5] (fun i wr => ∃ k m : Nat, k ≤ l1.length ∧ i = .int .i64 k ∧ Hid (l1.take k = l2.take k) ∧ wr = w.drewN m) (fun i _ => l1.length - (intOf i).toNat)
  case atStart => exact ⟨0, 0, Nat.zero_le _, rfl, rfl, rfl⟩
  case round =>
    obtain ⟨k, m, hk, rfl, hsame, rfl⟩ := hrel
    by_cases hkn : k < l1.length
    · have hk2 : k < l2.length := by rw [HLL.out]; exact hkn
      obtain ⟨b1, o1, rfl, e1⟩ := H1.out k l1[k] (by simp [hkn])
      obtain ⟨b2, o2, rfl, e2⟩ := H2.out k l2[k] (by simp [hk2])
      obtain ⟨x, hx⟩ : ∃ x : Nat, x = l1[k] := ⟨_, rfl⟩
      obtain ⟨y, hy⟩ : ∃ y : Nat, y = l2[k] := ⟨_, rfl⟩
      have HX : Hid (l1[k]? = some x) := by show _ = _; rw [hx]; simp [hkn]
      have HY : Hid (l2[k]? = some y) := by show _ = _; rw [hy]; simp [hk2]
      rw [← hx] at e1
      rw [← hy] at e2
      clear hx hy H1 H2 hk2
      by_cases hxy : x = y
      · have HXY : Hid (x = y) := hxy
        subst hxy
        go_wp2
        go_region
        all_goals go_wp2
        all_goals go_roundw
        case rel => exact ⟨k + 1, m + 1, by omega, by go_num, by show _ = _; rw [List.take_add_one, List.take_add_one, hsame.out, HX.out, HY.out], rfl⟩
        case measure => simp [intOf]; omega
      · have hxy' : ((x : Int) != (y : Int)) = true := by simp; omega
        go_wp2
        go_region
        all_goals go_wp2
        all_goals go_ret
        all_goals exact ⟨rfl, m + 1, rfl⟩
    · have e : k = l1.length := by omega
      exfalso
      have := hsame.out
      rw [e, List.take_length, List.take_of_length_le (by rw [HLL.out]; exact Nat.le_refl _)] at this
      exact HNE.out this
/-- An append whose run is known, also a guarded one. -/
theorem wpList_append_go {P : Program} (w : World) {ops : Array Oper} {rest : List Oper} {o : Oper} {a : Act} {Q : Exit → Act → World → Prop} (hw : Region.wanted o (yielded ops a.tmps) = true) (s x : Operand) (t tn : TypeId)
    (ho : o.op = .call { callee := .builtin .append, args := #[s, x], argTypes := #[t, tn] }) (vs vx : Value) (hs : a.eval s = vs) (hx : a.eval x = vx)
    (v' : Value) (w' : World) (hr : (Builtin.append_ #[t, tn] o.type #[vs, vx]).run P w = .ok v' w') (h : wpList P ops Q rest (a.put o.dst v') w') : wpList P ops Q (o :: rest) a w :=
  BigFrame.wpList_want hw fun K hK => Lib.wp_append_run w s x t tn ho vs vx hs hx v' w' hr (hK _ _ h)
theorem zeros_u8 (m : Nat) : (Builtin.zeroCells (Value.int .u8 0).cells m).toList = u8s (List.replicate m 0) := by
  apply List.ext_getElem?
  intro k
  by_cases hk : k < m
  · simp [Builtin.zeroCells, u8s, hk, Value.cells, Nat.mod_one]
  · rw [List.getElem?_eq_none (by simp [Builtin.zeroCells, Value.cells]; omega), List.getElem?_eq_none (by simp; omega)]
theorem made_zeros (n : Nat) : (madeCells (Value.int .u8 0).cells (n * 1)).toList = u8s (List.replicate n 0) := by
  apply List.ext_getElem?
  intro k
  by_cases hk : k < n
  · simp [madeCells, u8s, hk, Value.cells, Nat.mod_one]
  · rw [List.getElem?_eq_none (by simp [madeCells]; omega), List.getElem?_eq_none (by simp; omega)]
theorem u8s_append (l m : List Nat) : u8s (l ++ m) = u8s l ++ u8s m := by simp [u8s]
theorem own_cell {w : World} {base g n c : Nat} {l : List Nat} {j x : Nat} (h : w.ownsRow base 5 1 (.slice (some ⟨g, 0, none⟩) n c) n (u8s l)) (hx : l[j]? = some x) :
    w.cell? ⟨g, j, none⟩ = some (.int .u8 (x : Int)) ∧ w.frozen? ⟨g, j, none⟩ = false := by
  have hl : l.length = n := by have := h.1; simpa using this
  have hj : j < l.length := (List.getElem?_eq_some_iff.1 hx).1
  rcases h.2 with ⟨e1, _⟩ | ⟨g', cap', cur, hv, hgb, hh, hncap, _, hcs, htake⟩
  · cases e1
  · cases hv
    refine ⟨?_, by simp [World.frozen?, hh]⟩
    have e : (u8s l)[j]? = some (.int .u8 (x : Int)) := by rw [u8s_get, hx]; rfl
    rw [← htake, List.getElem?_take, if_pos (by omega)] at e
    simp only [World.cell?, hh]
    simpa using e
theorem own_set {w : World} {base g n c : Nat} {l : List Nat} (h : w.ownsRow base 5 1 (.slice (some ⟨g, 0, none⟩) n c) n (u8s l)) (j y : Nat) (hj : j < n) :
    (w.setCell ⟨g, j, none⟩ (.int .u8 (y : Int))).ownsRow base 5 1 (.slice (some ⟨g, 0, none⟩) n c) n (u8s (l.set j y)) := by
  rw [← u8s_set]; exact ownsRow_set h j hj _
theorem own_cap {w : World} {base g n c : Nat} {xs : List Value} (h : w.ownsRow base 5 1 (.slice (some ⟨g, 0, none⟩) n c) n xs) : n ≤ c ∧ c ≤ maxLen := by
  rcases h.2 with ⟨e1, _⟩ | ⟨g', cap', cur, hv, hgb, hh, hncap, hm, _⟩
  · cases e1
  · cases hv
    exact ⟨hncap, hm⟩
/-- A row that has just been made. -/
theorem own_new (w : World) (base : Nat) (Z : Array Value) (N : Nat) (l : List Nat) (hZ : Z.toList = u8s l) (hl : l.length = N) (hN : N ≤ 1000000) (hb : base ≤ w.heap.size) :
    (w.alloc (.cells Z 5)).ownsRow base 5 1 (.slice (some ⟨w.heap.size, 0, none⟩) N N) N (u8s l) := by
  have hs : Z.size = N := by have := congrArg List.length hZ; simpa [hl] using this
  refine ⟨by simp [hl], .inr ⟨w.heap.size, N, Z, rfl, hb, heap_alloc_new w _, Nat.le_refl _, by unfold maxLen; omega, by omega, ?_⟩⟩
  rw [hZ]; exact List.take_of_length_le (by simp [hl])
/-- A part of a row. -/
theorem own_part {w : World} {base g n c : Nat} {l : List Nat} (h : w.ownsRow base 5 1 (.slice (some ⟨g, 0, none⟩) n c) n (u8s l)) (i m c' : Nat) (him : i + m ≤ n) :
    SlAt w (.slice (some ⟨g, i, none⟩) m c') ((l.drop i).take m) := by
  have hl : l.length = n := by have := h.1; simpa using this
  refine ⟨some ⟨g, i, none⟩, c', by simp; omega, fun j x hx => ⟨g, i, rfl, ?_⟩⟩
  have hj : j < m := by have := (List.getElem?_eq_some_iff.1 hx).1; simp at this; omega
  rw [List.getElem?_take, if_pos hj, List.getElem?_drop] at hx
  exact (own_cell h hx).1
theorem sl_cell {w : World} {a : Option Addr} {n cap : Nat} {l : List Nat} {j x : Nat} (h : SlAt w (.slice a n cap) l) (hx : l[j]? = some x) :
    ∃ b off, a = some ⟨b, off, none⟩ ∧ w.cell? ⟨b, off + j, none⟩ = some (.int .u8 ((x : Nat) : Int)) := by
  obtain ⟨a1, c1, e, hc⟩ := h
  cases e
  exact hc j x hx
theorem SlAt.take {w : World} {a : Option Addr} {n cap : Nat} {l : List Nat} (h : SlAt w (.slice a n cap) l) (k : Nat) (hk : k ≤ n) (hl : l.length = n) : SlAt w (.slice a k cap) (l.take k) := by
  refine ⟨a, cap, by simp; omega, fun j x hx => ?_⟩
  rw [List.getElem?_take] at hx
  split at hx
  · exact sl_cell h hx
  · cases hx
theorem SlAt.none_of (w : World) (a : Option Addr) (c : Nat) {n : Nat} (hn : n = 0) : SlAt w (.slice a n c) [] := ⟨a, c, by rw [hn]; rfl, fun j x hx => by simp at hx⟩
theorem SlAt.addr {w : World} {a : Option Addr} {n cap : Nat} {l : List Nat} (h : SlAt w (.slice a n cap) l) (hne : l ≠ []) : ∃ b off, a = some ⟨b, off, none⟩ := by
  have hpos : 0 < l.length := List.length_pos_iff.2 hne
  obtain ⟨b, off, e, _⟩ := sl_cell h (show l[0]? = some l[0] by simp)
  exact ⟨b, off, e⟩
theorem SlAt.drop {w : World} {x : Addr} {n cap c : Nat} {l : List Nat} (h : SlAt w (.slice (some x) n cap) l) (k : Nat) (hk : k ≤ n) (hl : l.length = n) : SlAt w (.slice (some (x.add k)) (n - k) c) (l.drop k) := by
  refine ⟨some (x.add k), c, by simp [hl], fun j y hy => ?_⟩
  rw [List.getElem?_drop] at hy
  obtain ⟨b, off, e, hc⟩ := sl_cell h hy
  cases e
  exact ⟨b, off + k, by simp [Addr.add], by rw [Nat.add_assoc]; exact hc⟩

end Go.Proofs.Ytejgkgnocgplbaa

/- The document's own As and Encode. -/
namespace Go.Proofs.Ytejgkgnocgplbaa
set_option linter.unusedVariables false
set_option linter.unusedSimpArgs false
open Go.RowKit Dg

theorem length_residD {l : List Int} (h : okZ l) : (residD l).length ≤ 5 + 56 * l.length := by
  have := (length_digs (zigs l) (parOf l) (okZ_num h) (parOf_le l)).2
  unfold residD
  simp at this ⊢
  omega
theorem frm_len {kind : Int} {x : List Int} {s : Nat} {D : List Bool} (h : frm kind x s = some D) : D.length ≤ 10000 := by
  unfold frm at h
  by_cases hk : ¬ mayX x ∨ kind < 0 ∨ 18 < kind
  · rw [if_pos hk] at h; cases h
  rw [if_neg hk] at h
  have hm : mayX x := by
    by_cases hm : mayX x
    · exact hm
    · exact absurd (Or.inl hm) hk
  have h64 := hm.2.1
  by_cases h0 : kind = 0
  · rw [if_pos h0] at h
    by_cases ha : allOne x
    · rw [if_pos ha] at h; cases h; simp
    · rw [if_neg ha] at h; cases h
  rw [if_neg h0] at h
  by_cases h1 : kind = 1
  · rw [if_pos h1] at h; cases h; simp; omega
  rw [if_neg h1] at h
  by_cases h6 : kind ≤ 6
  · rw [if_pos h6] at h
    by_cases hl : (x.length : Int) < kind - 2
    · rw [if_pos hl] at h; cases h
    rw [if_neg hl] at h
    by_cases hz : okZ (residZ x (kind - 2).toNat)
    · rw [if_pos hz] at h
      cases h
      have := length_residD hz
      simp at this ⊢
      omega
    · rw [if_neg hz] at h; cases h
  rw [if_neg h6] at h
  obtain ⟨⟨c, b⟩, hc⟩ : ∃ R, R = coOut x (kind - 6) s := ⟨_, rfl⟩
  rw [← hc] at h
  simp only at h
  cases b with
  | false => simp at h
  | true =>
    rw [if_pos rfl] at h
    obtain ⟨g1, g2, g3, g4, g5⟩ := coOut_true hc.symm
    by_cases hz : okZ (lresidZ x c)
    · rw [if_pos hz] at h
      cases h
      have := length_residD hz
      simp at this ⊢
      omega
    · rw [if_neg hz] at h; cases h
theorem bestF_len (x : List Int) (s j : Nat) : (bestF x s j).length ≤ 10000 := by
  induction j with
  | zero => simp [bestF]
  | succ j ih =>
    simp only [bestF]
    split
    · exact ih
    · rename_i b hb
      split
      · exact frm_len hb
      · exact ih
/-- Bytes of one's own and a yes or no, or an error. -/
def GaveY (w w' : World) (R : List Nat × Bool) (e : Ending) : Prop := ∃ v, e = .returned (.tuple #[v, .bool R.2]) ∧ OwnBytes w' w.heap.size v R.1 ∧ Below w.heap.size w w'
def GaveN (w w' : World) (R : List Nat × Int) (e : Ending) : Prop := ∃ v, e = .returned (.tuple #[v, .int .i64 R.2]) ∧ OwnBytes w' w.heap.size v R.1 ∧ Below w.heap.size w w'
theorem OwnBytes.nil (w : World) (base : Nat) : OwnBytes w base (.slice none 0 0) [] := World.ownsRow_nil _ _ _ _

end Go.Proofs.Ytejgkgnocgplbaa

/- frame: the digits of a kind; As. -/
namespace Go.Proofs.Ytejgkgnocgplbaa
set_option linter.unusedVariables false
set_option linter.unusedSimpArgs false
open Go.RowKit Dg

/-- What written answers: a writer of the call's own, and whether it holds a frame. -/
def Wrt (w w' : World) (o : Option (List Bool)) (e : Ending) : Prop :=
  ∃ b, e = .returned (.tuple #[.pointer (some ⟨b, 0, none⟩), .bool o.isSome]) ∧ Below w.heap.size w w' ∧ w.heap.size ≤ b ∧ ∀ D, o = some D → ∃ rv, WrAt w' b rv D
theorem Wrt.of {w w2 w3 : World} {b : Nat} {rv2 : Value} {H : List Bool} {o o' : Option (List Bool)} {t : Bool} (hbw : b = w.heap.size) (hb2 : Below w.heap.size w w2) (hw2 : WrAt w2 b rv2 H) (h3 : PutB w2 w3 b rv2 H o' (.returned (.bool t))) (ho : o = o'.map fun D => H ++ D) :
    Wrt w w3 o (.returned (.tuple #[.pointer (some ⟨b, 0, none⟩), .bool t])) := by
  have key : ∀ ds', Wrote w2 w3 b rv2 ds' → Below w.heap.size w w3 := by
    rintro ds' ⟨rv', -, hk, -⟩
    exact hk.below_of hb2 (fun k hf => by have := (hw2.foot k hf).1; omega) hb2.size
  cases o' with
  | none =>
    obtain ⟨he, ds', h⟩ := h3
    cases he
    subst ho
    exact ⟨b, rfl, key _ h, by omega, fun D hD => by cases hD⟩
  | some D =>
    obtain ⟨he, h⟩ := h3
    cases he
    subst ho
    refine ⟨b, rfl, key _ h, by omega, fun D' hD => ?_⟩
    cases hD
    obtain ⟨rv', h1, -, -⟩ := h
    exact ⟨rv', h1⟩

set_option maxRecDepth 100000 in
set_option maxHeartbeats 4000000 in
theorem pwritten_any (w : World) (kind : Int) (s : Nat) (a : Option Addr) (cap : Nat) (l : List Int) (hl : Ns w a cap l) (hm : mayX l) (hs : IsShift (autoZ l 0) s) (o : Option (List Bool)) (ho : o = frm kind l s) :
    Calls Try.prog 30 #[.int .i64 kind, .slice a l.length cap] w fun e w' => Wrt w w' o e := by
  have HL := hid_of hl
  have HM := hid_of hm
  have HS := hid_of hs
  have hl1 : 1 ≤ l.length := hm.1
  have hl64 : l.length ≤ 64 := hm.2.1
  have hahead : ∀ y, a = some y → y.block < w.heap.size := by
    intro y hy
    obtain ⟨x, hx⟩ : ∃ x, l[0]? = some x := ⟨l[0]'(by omega), by simp⟩
    obtain ⟨b0, o0, e0, hc0⟩ := hl.at_ 0 x hx
    rw [hy] at e0
    cases e0
    exact World.block_lt_of_cell? w _ hc0
  have HAH := hid_of hahead
  unfold frm at ho
  have HO : Hid (o = _) := ho
  clear hl hm hs ho hahead
  go_enter Try.func30, Try.ntmps30
  go_wp2_with fail
  refine (newWriter_any _).mono ?_
  rintro e w1 ⟨rfl, hwa1, hb1, hs1⟩
  obtain ⟨b, hb⟩ : ∃ b, b = w.heap.size := ⟨_, rfl⟩
  rw [← hb] at hwa1 hs1 ⊢
  have HSB : Hid (b = w.heap.size) := hb
  have HW1 := hid_of hwa1
  have HB1 : Hid (Below w.heap.size w w1) := hb1
  clear hwa1 hb1 hb
  go_wp2_with fail
  refine (put_at w1 b _ [] kind 8 HW1.out (by simp) (by decide) _ rfl).mono ?_
  rintro e w2 ⟨rfl, rv2, hw2, hk2, hn2⟩
  have HB2 : Hid (Below w.heap.size w w2) := hk2.below_of HB1.out (fun k hf => by have h1 := (HW1.out.foot k hf).1; have h2 := HSB.out; omega) HB1.out.size
  have HW2 := hid_of hw2
  clear hw2 hk2 hn2
  go_wp2_with fail
  refine (put_at w2 b rv2 _ (l.length : Int) 8 HW2.out (by simp) (by decide) _ rfl).mono ?_
  rintro e w3 ⟨rfl, rv3, hw3, hk3, hn3⟩
  have HB3 : Hid (Below w.heap.size w w3) := hk3.below_of HB2.out (fun k hf => by have h1 := (HW2.out.foot k hf).1; have h2 := HSB.out; omega) HB2.out.size
  have HW3 : Hid (WrAt w3 b rv3 (headD kind l.length)) := by show WrAt _ _ _ _; simpa [headD] using hw3
  have HL3 := hid_of (HL.out.mono HB3.out)
  have HA3 : Hid (∀ y, a = some y → ¬ Wf b rv3 y.block) := ahead HW3.out (fun y hy => by rw [HSB.out]; exact HAH.out y hy)
  have hd3 : (headD kind l.length).length ≤ 1000 := by simp
  clear hw3 hk3 hn3 HW1 HB1 HW2 HB2
  rcases (by omega : kind = 0 ∨ kind = 1 ∨ (2 ≤ kind ∧ kind ≤ 6) ∨ (7 ≤ kind ∧ kind ≤ 18) ∨ kind < 0 ∨ 18 < kind) with rfl | rfl | ⟨h1, h2⟩ | ⟨h1, h2⟩ | h1 | h1
  · have HOO : Hid (o = (if allOne l then some (sampD (l.getD 0 0)) else none).map fun D => headD 0 l.length ++ D) := by
      show _ = _
      rw [HO.out, if_neg (by simp [HM.out]), if_pos rfl]
      by_cases ha : allOne l
      · rw [if_pos ha, if_pos ha]; rfl
      · rw [if_neg ha, if_neg ha]; rfl
    clear HO
    go_wp2_with fail
    refine (pconst_any w3 b cap rv3 _ a l HW3.out HL3.out HA3.out HM.out hd3 _ rfl).mono ?_
    rintro e w4 h4
    obtain ⟨t, rfl⟩ := h4.form
    have H4 := hid_of h4
    clear h4
    go_wp2_with fail
    go_ret2
    exact Wrt.of HSB.out HB3.out HW3.out H4.out HOO.out
  · have HOO : Hid (o = (some (sampsD l)).map fun D => headD 1 l.length ++ D) := by
      show _ = _
      rw [HO.out, if_neg (by simp [HM.out]), if_neg (by decide), if_pos rfl]
      rfl
    clear HO
    go_wp2_with fail
    refine (pputs_any w3 b _ cap rv3 _ a l rfl HW3.out HL3.out.at_ HA3.out HM.out.2.2 (by omega) (by omega) _ rfl).mono ?_
    rintro e w4 ⟨rfl, h4⟩
    have H4 := hid_of h4
    clear h4
    go_wp2_with fail
    go_ret2
    exact Wrt.of (o' := some (sampsD l)) HSB.out HB3.out HW3.out ⟨rfl, H4.out⟩ HOO.out
  · obtain ⟨n, hn⟩ : ∃ n : Nat, (n : Int) = kind - 2 := ⟨(kind - 2).toNat, by omega⟩
    have hkb0 : (kind == 0) = false := beq_eq_false_iff_ne.2 (by omega)
    have hkb1 : (kind == 1) = false := beq_eq_false_iff_ne.2 (by omega)
    have HN := hid_of hn
    have hn4 : n ≤ 4 := by omega
    have HOO : Hid (o = (if l.length < n then none else if okZ (residZ l n) then some (sampsD (l.take n) ++ residD (residZ l n)) else none).map fun D => headD kind l.length ++ D) := by
      show _ = _
      have e : (kind - 2).toNat = n := by omega
      rw [HO.out, if_neg (by simp [HM.out]; omega), if_neg (by omega), if_neg (by omega), if_pos (by omega), e]
      by_cases ha : l.length < n
      · rw [if_pos ha, if_pos (by omega)]; rfl
      · rw [if_neg ha, if_neg (by omega)]
        by_cases hz : okZ (residZ l n)
        · rw [if_pos hz, if_pos hz, List.append_assoc]; rfl
        · rw [if_neg hz, if_neg hz]; rfl
    clear HO hn
    go_wp2_with (go_at_call 39; refine (pfix_any _ _ (by omega) (by omega) _ HN.out).mono ?_; rintro e w4 ⟨rfl, rfl⟩)
    refine (pfixed_any w3 b cap n rv3 _ a l HW3.out HL3.out HA3.out HM.out hn4 hd3 _ rfl).mono ?_
    rintro e w4 h4
    obtain ⟨t, rfl⟩ := h4.form
    have H4 := hid_of h4
    clear h4
    go_wp2_with fail
    go_ret2
    exact Wrt.of HSB.out HB3.out HW3.out H4.out HOO.out
  · obtain ⟨n, hn⟩ : ∃ n : Nat, (n : Int) = kind - 6 := ⟨(kind - 6).toNat, by omega⟩
    have hkb0 : (kind == 0) = false := beq_eq_false_iff_ne.2 (by omega)
    have hkb1 : (kind == 1) = false := beq_eq_false_iff_ne.2 (by omega)
    have HN := hid_of hn
    have hn1 : 1 ≤ n := by omega
    have hn12 : n ≤ 12 := by omega
    have HOO : Hid (o = (if (coOut l (n : Int) s).2 = true then (if okZ (lresidZ l (coOut l (n : Int) s).1) then some (sampsD (l.take n) ++ coefsD (coOut l (n : Int) s).1 ++ residD (lresidZ l (coOut l (n : Int) s).1)) else none) else none).map fun D => headD kind l.length ++ D) := by
      show _ = _
      have e : (kind - 6).toNat = n := by omega
      rw [HO.out, if_neg (by simp [HM.out]; omega), if_neg (by omega), if_neg (by omega), if_neg (by omega), e, ← hn]
      by_cases ha : (coOut l (n : Int) s).2 = true
      · rw [if_pos ha, if_pos ha]
        by_cases hz : okZ (lresidZ l (coOut l (n : Int) s).1)
        · rw [if_pos hz, if_pos hz]; simp only [List.append_assoc]; rfl
        · rw [if_neg hz, if_neg hz]; rfl
      · rw [if_neg ha, if_neg ha]; rfl
    clear HO hn
    go_wp2_with (go_at_call 41; refine (plpc_any _ _ (by omega) (by omega) _ HN.out).mono ?_; rintro e w4 ⟨rfl, rfl⟩)
    refine (plpcs_any w3 b cap n s rv3 _ a l HW3.out HL3.out HA3.out HM.out HS.out hn1 hn12 hd3 _ rfl).mono ?_
    rintro e w4 h4
    obtain ⟨t, rfl⟩ := h4.form
    have H4 := hid_of h4
    clear h4
    go_wp2_with fail
    go_ret2
    exact Wrt.of HSB.out HB3.out HW3.out H4.out HOO.out
  · have HOO : Hid (o = (none : Option (List Bool)).map fun D => headD kind l.length ++ D) := by
      show _ = _
      rw [HO.out, if_pos (.inr (.inl h1))]
      rfl
    have hkb0 : (kind == 0) = false := beq_eq_false_iff_ne.2 (by omega)
    have hkb1 : (kind == 1) = false := beq_eq_false_iff_ne.2 (by omega)
    clear HO
    go_wp2_with fail
    go_ret2
    exact Wrt.of (o' := none) HSB.out HB3.out HW3.out ⟨rfl, _, Wrote.refl HW3.out⟩ HOO.out
  · have HOO : Hid (o = (none : Option (List Bool)).map fun D => headD kind l.length ++ D) := by
      show _ = _
      rw [HO.out, if_pos (.inr (.inr h1))]
      rfl
    have hkb0 : (kind == 0) = false := beq_eq_false_iff_ne.2 (by omega)
    have hkb1 : (kind == 1) = false := beq_eq_false_iff_ne.2 (by omega)
    clear HO
    go_wp2_with fail
    go_ret2
    exact Wrt.of (o' := none) HSB.out HB3.out HW3.out ⟨rfl, _, Wrote.refl HW3.out⟩ HOO.out

/-- A row of bytes of the call's own that is as long as its room. -/
def FullB (v : Value) (n : Nat) : Prop := v = .slice none 0 0 ∧ n = 0 ∨ ∃ g, v = .slice (some ⟨g, 0, none⟩) n n
def FullY (w w' : World) (R : List Nat × Bool) (e : Ending) : Prop := ∃ v, e = .returned (.tuple #[v, .bool R.2]) ∧ OwnBytes w' w.heap.size v R.1 ∧ FullB v R.1.length ∧ Below w.heap.size w w'
def FullN (w w' : World) (R : List Nat × Int) (e : Ending) : Prop := ∃ v, e = .returned (.tuple #[v, .int .i64 R.2]) ∧ OwnBytes w' w.heap.size v R.1 ∧ FullB v R.1.length ∧ Below w.heap.size w w'

end Go.Proofs.Ytejgkgnocgplbaa

/- frame: Encode. -/
namespace Go.Proofs.Ytejgkgnocgplbaa
set_option linter.unusedVariables false
set_option linter.unusedSimpArgs false
open Go.RowKit Dg

/-- The best writer yet, or none. -/
def BestAt (w wr : World) (p : Value) (ds : List Bool) : Prop :=
  (p = .pointer none ∧ ds = []) ∨ ∃ b rv, p = .pointer (some ⟨b, 0, none⟩) ∧ WrAt wr b rv ds ∧ 0 < ds.length ∧ w.heap.size ≤ b
theorem BestAt.mono {w wr w1 : World} {p : Value} {ds : List Bool} (h : BestAt w wr p ds) (hb : Below wr.heap.size wr w1) : BestAt w w1 p ds := by
  rcases h with h | ⟨b, rv, h1, h2, h3, h4⟩
  · exact .inl h
  · exact .inr ⟨b, rv, h1, h2.below hb, h3, h4⟩
theorem frm_pos {kind : Int} {x : List Int} {s : Nat} {D : List Bool} (h : frm kind x s = some D) : 0 < D.length := by
  have h1 := decP_tail h []
  rw [List.append_nil] at h1
  cases D with
  | nil => simp [decP, takeD] at h1
  | cons d D => simp
theorem bestF_pos {x : List Int} (hm : mayX x) (s : Nat) (j : Nat) (hj : 2 ≤ j) : 0 < (bestF x s j).length := by
  induction j with
  | zero => omega
  | succ j ih =>
    simp only [bestF]
    cases hF : frm (j : Int) x s with
    | none =>
      by_cases hj1 : j = 1
      · subst hj1
        unfold frm at hF
        rw [if_neg (by simp [hm]), if_neg (by decide), if_pos (by decide)] at hF
        cases hF
      · exact ih (by omega)
    | some D =>
      have := frm_pos hF
      simp only
      split
      · exact this
      · rename_i h; omega

set_option maxRecDepth 100000 in
set_option maxHeartbeats 4000000 in
theorem fenc_full (w : World) (s : Nat) (a : Option Addr) (cap : Nat) (l : List Int) (hl : Ns w a cap l) (hll : l.length ≤ 1000000) (hs : mayX l → IsShift (autoZ l 0) s) (R : List Nat × Int) (hR : R = encOut l s) :
    Calls Try.prog 24 #[.slice a l.length cap] w fun e w' => FullN w w' R e := by
  have HL := hid_of hl
  have HS := hid_of hs
  unfold encOut at hR
  clear hl hs
  by_cases hc : l.length < 1 ∨ 64 < l.length
  case pos =>
    have HT : Hid (false = decide (1 ≤ (l.length : Int) ∧ (l.length : Int) ≤ 64)) := (decide_eq_false (by omega)).symm
    rw [if_pos hc] at hR
    have HR := hid_of hR
    clear hR hc
    go_enter Try.func24, Try.ntmps24
    go_wp2_with (go_at_call 28; refine (pcount_any _ _ false HT.out).mono ?_; rintro e w1 ⟨rfl, rfl⟩)
    go_ret2
    rw [HR.out]
    exact ⟨_, rfl, OwnBytes.nil _ _, .inl ⟨rfl, rfl⟩, Below.refl _ _⟩
  rw [if_neg hc] at hR
  have hl1 : 1 ≤ l.length := by omega
  have hl64 : l.length ≤ 64 := by omega
  clear hc
  have HT : Hid (true = decide (1 ≤ (l.length : Int) ∧ (l.length : Int) ≤ 64)) := (decide_eq_true (by omega)).symm
  by_cases hS : allS l
  case neg =>
    have HT2 : Hid (false = decide (allS l)) := (decide_eq_false hS).symm
    rw [if_neg hS] at hR
    have HR := hid_of hR
    clear hR hS
    go_enter Try.func24, Try.ntmps24
    go_wp2_with first
      | (go_at_call 28; refine (pcount_any _ _ true HT.out).mono ?_; rintro e w1 ⟨rfl, rfl⟩)
      | (go_at_call 29; refine (pare_any _ _ _ _ HL.out.at_ hll false HT2.out).mono ?_; rintro e w1 ⟨rfl, rfl⟩)
    go_ret2
    rw [HR.out]
    exact ⟨_, rfl, OwnBytes.nil _ _, .inl ⟨rfl, rfl⟩, Below.refl _ _⟩
  rw [if_pos hS] at hR
  have HR := hid_of hR
  have HT2 : Hid (true = decide (allS l)) := (decide_eq_true hS).symm
  have HM : Hid (mayX l) := ⟨hl1, hl64, hS⟩
  clear hR hS
  go_enter Try.func24, Try.ntmps24
  go_wp2_with first
    | (go_at_call 28; refine (pcount_any _ _ true HT.out).mono ?_; rintro e w1 ⟨rfl, rfl⟩)
    | (go_at_call 29; refine (pare_any _ _ _ _ HL.out.at_ hll true HT2.out).mono ?_; rintro e w1 ⟨rfl, rfl⟩)
  go_loopw [4, 15] (fun p i wr => ∃ j : Nat, j ≤ 19 ∧ i = .int .i64 (j : Int) ∧ Hid (BestAt w wr p (bestF l s j)) ∧ Hid (Below w.heap.size w wr)) (fun _ i _ => 19 - (intOf i).toNat)
  case atStart => exact ⟨0, Nat.zero_le _, rfl, .inl ⟨rfl, rfl⟩, Below.refl _ _⟩
  case round =>
    obtain ⟨j, hj, rfl, hbest, hb⟩ := hrel
    by_cases hj19 : j < 19
    · have HLW : Hid (Ns wr a cap l) := HL.out.mono hb.out
      have hjb : decide ((j : Int) < 19) = true := decide_eq_true (by omega)
      cases hF : frm (j : Int) l s with
      | none =>
        have HF : Hid (none = frm (j : Int) l s) := hF.symm
        have HNX : Hid (bestF l s (j + 1) = bestF l s j) := by show _ = _; simp only [bestF]; rw [hF]
        clear hF
        rcases hbest.out with ⟨rfl, hB⟩ | ⟨b, rv, rfl, hw, hp, hwb⟩
        all_goals
          go_wp2_with fail
          refine (pwritten_any wr _ s a cap l HLW.out HM.out (HS.out HM.out) _ HF.out).mono ?_
          rintro e w2 ⟨b2, rfl, hb2, -, -⟩
          have HB2 : Hid (Below w.heap.size w w2) := hb.out.trans (hb2.mono hb.out.size)
          have HX := hid_of (hbest.out.mono hb2)
          rw [← HNX.out] at HX
          clear hb2
          go_wp2_with fail
          exact ⟨⟨j + 1, by omega, by go_num, HX, HB2⟩, by (simp [intOf]) <;> omega⟩
      | some D =>
        have HF : Hid (some D = frm (j : Int) l s) := hF.symm
        obtain ⟨B, hB⟩ : ∃ B, B = bestF l s j := ⟨_, rfl⟩
        have HNX : Hid (bestF l s (j + 1) = if B.length = 0 ∨ D.length < B.length then D else B) := by show _ = _; rw [hB]; simp only [bestF]; rw [hF]
        have hDp := frm_pos hF
        rw [← hB] at hbest
        clear hF hB
        rcases hbest.out with ⟨rfl, hB0⟩ | ⟨b, rv, rfl, hw, hp, hwb⟩
        · have HE : Hid (bestF l s (j + 1) = D) := by show _ = _; rw [HNX.out, if_pos (.inl (by rw [hB0]; rfl))]
          clear hB0
          go_wp2_with fail
          refine (pwritten_any wr _ s a cap l HLW.out HM.out (HS.out HM.out) _ HF.out).mono ?_
          rintro e w2 ⟨b2, rfl, hb2, hwb2, hw2⟩
          obtain ⟨rv2, hw2⟩ := hw2 D rfl
          have HB2 : Hid (Below w.heap.size w w2) := hb.out.trans (hb2.mono hb.out.size)
          have HX : Hid (BestAt w w2 (.pointer (some ⟨b2, 0, none⟩)) (bestF l s (j + 1))) := by
            rw [HE.out]
            exact .inr ⟨b2, rv2, rfl, hw2, hDp, Nat.le_trans hb.out.size hwb2⟩
          clear hb2 hw2 hwb2
          go_wp2_with fail
          exact ⟨⟨j + 1, by omega, by go_num, HX, HB2⟩, by (simp [intOf]) <;> omega⟩
        · have HWB := hid_of hw
          have HWP := hid_of hwb
          clear hw hwb
          go_wp2_with fail
          refine (pwritten_any wr _ s a cap l HLW.out HM.out (HS.out HM.out) _ HF.out).mono ?_
          rintro e w2 ⟨b2, rfl, hb2, hwb2, hw2⟩
          obtain ⟨rv2, hw2⟩ := hw2 D rfl
          have HB2 : Hid (Below w.heap.size w w2) := hb.out.trans (hb2.mono hb.out.size)
          have HWD := hid_of hw2
          have HWB2 := hid_of (HWB.out.below hb2)
          have HX1 : Hid (BestAt w w2 (.pointer (some ⟨b2, 0, none⟩)) D) := .inr ⟨b2, rv2, rfl, hw2, hDp, Nat.le_trans hb.out.size hwb2⟩
          have HX2 : Hid (BestAt w w2 (.pointer (some ⟨b, 0, none⟩)) B) := .inr ⟨b, rv, rfl, HWB2.out, hp, HWP.out⟩
          clear hb2 hw2 hwb2
          by_cases hlt : D.length < B.length
          · have HE : Hid (bestF l s (j + 1) = D) := by show _ = _; rw [HNX.out, if_pos (.inr hlt)]
            rw [← HE.out] at HX1
            go_wp2_with first
              | (go_at_call_of 31 (Value.pointer (some ⟨b2, 0, none⟩)); refine (len_any _ _ _ _ HWD.out).mono ?_; rintro e w3 ⟨rfl, rfl⟩)
              | (go_at_call_of 31 (Value.pointer (some ⟨b, 0, none⟩)); refine (len_any _ _ _ _ HWB2.out).mono ?_; rintro e w3 ⟨rfl, rfl⟩)
            exact ⟨⟨j + 1, by omega, by go_num, HX1, HB2⟩, by (simp [intOf]) <;> omega⟩
          · have HE : Hid (bestF l s (j + 1) = B) := by show _ = _; rw [HNX.out, if_neg (by omega)]
            rw [← HE.out] at HX2
            go_wp2_with first
              | (go_at_call_of 31 (Value.pointer (some ⟨b2, 0, none⟩)); refine (len_any _ _ _ _ HWD.out).mono ?_; rintro e w3 ⟨rfl, rfl⟩)
              | (go_at_call_of 31 (Value.pointer (some ⟨b, 0, none⟩)); refine (len_any _ _ _ _ HWB2.out).mono ?_; rintro e w3 ⟨rfl, rfl⟩)
            exact ⟨⟨j + 1, by omega, by go_num, HX2, HB2⟩, by (simp [intOf]) <;> omega⟩
    · have e : j = 19 := by omega
      subst e
      have hpos := bestF_pos HM.out s 19 (by decide)
      obtain ⟨L, hL⟩ : ∃ L, L = pack (bestF l s 19) := ⟨_, rfl⟩
      have HLP := hid_of hL
      have HRR : Hid (R = (L, 0)) := by show _ = _; rw [HR.out, hL]
      have hlen := bestF_len l s 19
      rcases hbest.out with ⟨rfl, hB0⟩ | ⟨b, rv, rfl, hw, hp, hwb⟩
      · rw [hB0] at hpos
        exact absurd hpos (by decide)
      · have HW := hid_of hw
        clear hL hw hwb hp hpos
        have hjb : decide (((19 : Nat) : Int) < 19) = false := rfl
        go_wp2_with fail
        refine (bytes_any wr b rv _ L HLP.out HW.out (by omega)).mono ?_
        rintro e w3 ⟨rfl, h3, hb3⟩
        have HO3 : Hid (OwnBytes w3 w.heap.size (.slice (some ⟨wr.heap.size, 0, none⟩) L.length L.length) L) := ownsRow_base h3 hb.out.size
        have HB3 : Hid (Below w.heap.size w w3) := hb.out.trans (hb3.mono hb.out.size)
        clear h3 hb3
        go_wp2_with fail
        go_ret2
        rw [HRR.out]
        exact ⟨_, rfl, HO3.out, .inr ⟨_, rfl⟩, HB3.out⟩

end Go.Proofs.Ytejgkgnocgplbaa

/- The document's own next number: TakeRice. -/
namespace Go.Proofs.Ytejgkgnocgplbaa
set_option linter.unusedVariables false
set_option linter.unusedSimpArgs false
open Go.RowKit Dg

theorem isNum_zero : isNum 0 = true := by decide

end Go.Proofs.Ytejgkgnocgplbaa

/- The document's own samples and residuals out of digits. -/
namespace Go.Proofs.Ytejgkgnocgplbaa
set_option linter.unusedVariables false
set_option linter.unusedSimpArgs false
open Go.RowKit Dg

theorem below_keep {B : Nat} {w w' : World} (h : Below B w w') : Kept (fun k => B ≤ k) w w' := ⟨h.os, h.tape, h.output, h.size, fun k _ hf => h.block k (by omega)⟩
theorem BtAt.under {B : Nat} {w w' : World} {v : Value} {ds : List Bool} (h : BtAt w v ds) (hb : Below B w w') (hv : ∀ k, v.ownBlock = some k → k < B) : BtAt w' v ds :=
  h.kept (below_keep hb) (fun k hk => by have := hv k hk; omega)
theorem takeD_some {ds : List Bool} {n : Nat} (hn : n ≤ 62) (h : n ≤ ds.length) : takeD ds n = some (num (ds.take n), ds.drop n) ∧ getOut ds (n : Int) = (num (ds.take n), n, true) := by
  refine ⟨by unfold takeD; rw [if_pos h], ?_⟩
  unfold getOut
  rw [if_pos ⟨by omega, by omega, by omega⟩, Int.toNat_natCast]
theorem takeD_none {ds : List Bool} {n : Nat} (h : ¬ n ≤ ds.length) : takeD ds n = none ∧ getOut ds (n : Int) = (0, 0, false) := by
  refine ⟨by unfold takeD; rw [if_neg h], ?_⟩
  unfold getOut
  rw [if_neg (fun h1 => h (by omega))]
theorem num_small (ds : List Bool) (n : Nat) : num (ds.take n) < 2 ^ n := by
  have h1 := num_lt (ds.take n)
  have h2 : (2 : Nat) ^ (ds.take n).length ≤ 2 ^ n := Nat.pow_le_pow_right (by decide) (by simp; omega)
  omega
/-- What samples, takeResiduals answer. -/
def TookT (w w' : World) (l : List Nat) (v0 : Value) (T : Option (List Int × List Bool)) (e : Ending) : Prop :=
  match T with
  | none => ∃ x v, e = .returned (.tuple #[x, v, .bool false]) ∧ Below w.heap.size w w'
  | some q => ∃ x v p, e = .returned (.tuple #[x, v, .bool true]) ∧ OwnInts w' w.heap.size x q.1 ∧ BtAt w' v (left l p) ∧ q.2 = left l p ∧ (∀ k, v.ownBlock = some k → v0.ownBlock = some k) ∧ Below w.heap.size w w'

end Go.Proofs.Ytejgkgnocgplbaa

/- frame: numbers, residuals, a constant out of a reader. -/
namespace Go.Proofs.Ytejgkgnocgplbaa
set_option linter.unusedVariables false
set_option linter.unusedSimpArgs false
open Go.RowKit Dg

theorem length_left (l : List Nat) (p : Nat) : (left l p).length = 8 * l.length - p := by simp [left]
/-- Samples, coefficients: numbers that were lifted. -/
def liftT (d : Nat) (m : Int) : Nat → List Bool → Option (List Int × List Bool)
  | 0, ds => some ([], ds)
  | n + 1, ds => (takeD ds d).bind fun r => (liftT d m n r.2).map fun q => ((((r.1 : Nat) : Int) - m) :: q.1, q.2)
theorem liftT_samps (n : Nat) (ds : List Bool) : sampsT n ds = liftT 24 8388608 n ds := by
  induction n generalizing ds with
  | zero => rfl
  | succ n ih => simp only [sampsT, liftT, ih]
theorem liftT_coefs (n : Nat) (ds : List Bool) : coefsT n ds = liftT 16 32768 n ds := by
  induction n generalizing ds with
  | zero => rfl
  | succ n ih => simp only [coefsT, liftT, ih]
theorem Kept.low {w wr w' : World} {b : Nat} (h : Kept (fun i => i = b) w wr) (hb : Below w.heap.size wr w') : Kept (fun i => i = b) w w' :=
  h.trans' (below_keep hb) (fun i hi hf => by omega)
theorem own_keep {w1 w2 : World} {b base : Nat} {v : Value} {l : List Int} (h : OwnInts w1 base v l) (hk : Kept (fun i => i = b) w1 w2) (hb : b < base) : OwnInts w2 base v l :=
  ownsRow_other h hk (fun k hk' hf => by have := (World.ownsRow.lt h k hk').1; omega)

end Go.Proofs.Ytejgkgnocgplbaa

/- The document's own Decode. -/
namespace Go.Proofs.Ytejgkgnocgplbaa
set_option linter.unusedVariables false
set_option linter.unusedSimpArgs false
open Go.RowKit Dg

theorem left_zero (l : List Nat) : left l 0 = unpack l := by simp [left]
def outOf (o : Option (List Int)) : List Int × Int := match o with | none => ([], 2) | some x => (x, 0)
theorem decOut_of (l : List Nat) : decOut 2 l = outOf (decD (unpack l)) := by unfold decOut outOf; rfl
/-- All that is behind the samples that a frame begins with. -/
def finT (K n : Nat) (q : List Int × List Bool) : Option (List Int) := (bodyT K n q.1 q.2).bind fun y => if noOnes y.2 = true then some y.1 else none
def badHead (K n : Nat) : Prop := 18 < K ∨ n < 1 ∨ 64 < n ∨ n < ordOf K n ∨ (6 < K ∧ n ≤ ordOf K n)
theorem decD_at {l : List Nat} {K n : Nat} (h1 : takeD (left l 0) 8 = some (K, left l 8)) (h2 : takeD (left l 8) 8 = some (n, left l 16)) (hg : ¬ badHead K n) : decD (unpack l) = (sampsT (ordOf K n) (left l 16)).bind (finT K n) := by
  rw [← left_zero]
  unfold decD
  rw [h1]
  simp only [Option.bind_some]
  rw [h2]
  simp only [Option.bind_some]
  unfold badHead at hg
  rw [if_neg hg]
  rfl
theorem decD_badhead {l : List Nat} {K n : Nat} (h1 : takeD (left l 0) 8 = some (K, left l 8)) (h2 : takeD (left l 8) 8 = some (n, left l 16)) (hg : badHead K n) : decD (unpack l) = none := by
  rw [← left_zero]
  unfold decD
  rw [h1]
  simp only [Option.bind_some]
  rw [h2]
  simp only [Option.bind_some]
  unfold badHead at hg
  rw [if_pos hg]
theorem decD_short {l : List Nat} (h : takeD (left l 0) 8 = none ∨ ∃ K, takeD (left l 0) 8 = some (K, left l 8) ∧ takeD (left l 8) 8 = none) : decD (unpack l) = none := by
  rw [← left_zero]
  unfold decD
  rcases h with h | ⟨K, h1, h2⟩
  · rw [h]; rfl
  · rw [h1]
    simp only [Option.bind_some]
    rw [h2]
    rfl
theorem takeD_left {l : List Nat} {p n : Nat} (hn : n ≤ 62) (h : n ≤ (left l p).length) : ∃ z, z < 2 ^ n ∧ takeD (left l p) n = some (z, left l (p + n)) ∧ getOut (left l p) (n : Int) = (z, n, true) := by
  obtain ⟨e1, e2⟩ := takeD_some hn h
  exact ⟨_, num_small _ _, by rw [left_drop]; exact e1, e2⟩
theorem zagOf_small (z : Int) : -1099511627776 ≤ zagOf z ∧ zagOf z ≤ 1099511627776 := by
  unfold zagOf
  split
  · omega
  · split <;> omega
theorem ricesT_i64 (k : Nat) : ∀ (n : Nat) (ds : List Bool) (q : List Int × List Bool), ricesT k n ds = some q → (∀ x ∈ q.1, I64 x) ∧ q.1.length = n := by
  intro n
  induction n with
  | zero =>
    intro ds q h
    simp [ricesT] at h
    subst h
    exact ⟨fun x hx => by simp at hx, rfl⟩
  | succ n ih =>
    intro ds q h
    rw [ricesT] at h
    split at h
    · obtain ⟨q', h1, rfl⟩ := Option.map_eq_some_iff.1 h
      obtain ⟨g1, g2⟩ := ih _ _ h1
      refine ⟨fun x hx => ?_, by simp [g2]⟩
      rcases List.mem_cons.1 hx with rfl | hx
      · have := zagOf_small ((riceOut ds (k : Int)).1 : Nat)
        unfold I64
        omega
      · exact g1 x hx
    · cases h
theorem resT_i64 {n : Nat} {ds : List Bool} {q : List Int × List Bool} (h : resT n ds = some q) : (∀ x ∈ q.1, I64 x) ∧ q.1.length = n := by
  unfold resT at h
  obtain ⟨r, -, h2⟩ := Option.bind_eq_some_iff.1 h
  split at h2
  · cases h2
  · exact ricesT_i64 _ _ _ _ h2
theorem sampsT_len : ∀ (n : Nat) (ds : List Bool) (q : List Int × List Bool), sampsT n ds = some q → q.1.length = n := by
  intro n
  induction n with
  | zero => intro ds q h; simp [sampsT] at h; subst h; rfl
  | succ n ih =>
    intro ds q h
    rw [sampsT] at h
    obtain ⟨r, -, h2⟩ := Option.bind_eq_some_iff.1 h
    obtain ⟨q', h3, rfl⟩ := Option.map_eq_some_iff.1 h2
    simp [ih _ _ h3]
theorem finT_verb (n : Nat) (xs : List Int) (r : List Bool) : finT 1 n (xs, r) = if noOnes r = true then some xs else none := by
  unfold finT bodyT
  rw [if_neg (by decide), if_pos rfl]
  rfl
theorem finT_const (n : Nat) (xs : List Int) (r : List Bool) : finT 0 n (xs, r) = if noOnes r = true then some (List.replicate n (xs.getD 0 0)) else none := by
  unfold finT bodyT
  rw [if_pos rfl]
  rfl
theorem left_short (l : List Nat) (p : Nat) (h : l.length ≤ 1000000) : (left l p).length ≤ 4398046511104 := by rw [left_len]; omega

end Go.Proofs.Ytejgkgnocgplbaa

/- frame: a constant, the predictors' samples out of a reader. -/
namespace Go.Proofs.Ytejgkgnocgplbaa
set_option linter.unusedVariables false
set_option linter.unusedSimpArgs false
open Go.RowKit Dg

theorem own_ns {w : World} {base cap : Nat} {a : Option Addr} {l : List Int} (h : OwnInts w base (.slice a l.length cap) l) : Ns w a cap l := by
  obtain ⟨a', c', e, hn, -, -⟩ := h.ns
  cases e
  exact hn
theorem coefsT_len (n : Nat) (ds : List Bool) (q : List Int × List Bool) (h : coefsT n ds = some q) : q.1.length = n := by
  induction n generalizing ds q with
  | zero => simp [coefsT] at h; subst h; rfl
  | succ n ih =>
    rw [coefsT] at h
    cases h1 : takeD ds 16 with
    | none => rw [h1] at h; cases h
    | some r =>
      rw [h1] at h
      simp only [Option.bind_some] at h
      cases h2 : coefsT n r.2 with
      | none => rw [h2] at h; cases h
      | some q' =>
        rw [h2] at h
        cases h
        simp [ih _ _ h2]

end Go.Proofs.Ytejgkgnocgplbaa

/- frame: taken, Decode. -/
namespace Go.Proofs.Ytejgkgnocgplbaa
set_option linter.unusedVariables false
set_option linter.unusedSimpArgs false
open Go.RowKit Dg

theorem decP_short {l : List Nat} (h : takeD (left l 0) 8 = none ∨ ∃ K, takeD (left l 0) 8 = some (K, left l 8) ∧ takeD (left l 8) 8 = none) : decP (unpack l) = none := by
  rw [← left_zero]
  unfold decP
  rcases h with h | ⟨K, h1, h2⟩
  · rw [h]; rfl
  · rw [h1]
    simp only [Option.bind_some]
    rw [h2]
    rfl
instance (K n : Nat) : Decidable (badHead K n) := by unfold badHead; infer_instance
theorem decP_at {l : List Nat} {K n : Nat} (h1 : takeD (left l 0) 8 = some (K, left l 8)) (h2 : takeD (left l 8) 8 = some (n, left l 16)) : decP (unpack l) = if badHead K n then none else (sampsT (ordOf K n) (left l 16)).bind fun q => bodyT K n q.1 q.2 := by
  rw [← left_zero]
  unfold decP
  rw [h1]
  simp only [Option.bind_some]
  rw [h2]
  rfl

end Go.Proofs.Ytejgkgnocgplbaa

/- Encode, As, Decode and Kind of frame: the four contracts that the laws lean on. -/
namespace Go.Proofs.Ytejgkgnocgplbaa
set_option linter.unusedVariables false
set_option linter.unusedSimpArgs false
open Go.RowKit Dg

theorem fenc_any (w : World) (s : Nat) (a : Option Addr) (cap : Nat) (l : List Int) (hl : Ns w a cap l) (hll : l.length ≤ 1000000) (hs : mayX l → IsShift (autoZ l 0) s) (R : List Nat × Int) (hR : R = encOut l s) :
    Calls Try.prog 24 #[.slice a l.length cap] w fun e w' => GaveN w w' R e := by
  refine (fenc_full w s a cap l hl hll hs R hR).mono ?_
  rintro e w' ⟨v, h1, h2, -, h3⟩
  exact ⟨v, h1, h2, h3⟩
theorem kind_first {l : List Nat} {x : List Int} (h : decD (unpack l) = some x) : ∃ b : Nat, l[0]? = some b ∧ kindOut l = (b : Int) := by
  cases l with
  | nil => rw [unpack_nil] at h; cases h
  | cons b l =>
    refine ⟨b, rfl, ?_⟩
    unfold kindOut
    rw [h]
    rfl
end Go.Proofs.Ytejgkgnocgplbaa
