/- The texts Walk4, Walk5, Walk6, Walk7, Walk8, Walk9, Row, Post, Acts, Ref1, Ref2, Ref3, Ref4, Ref5, Own, Ints, one behind the other. -/
import Derived.Test.YtdcnbakmmkbodaaPart01
import Derived.Laws.CopyOwn
import Derived.ProofKit
import Derived.OpenShut
import Derived.Deep.Slices
import Derived.Laws.AppendOwnNone
import Derived.Laws.IdiomStrings
import Derived.Lib.AppendZeros

/- Bytes that are read: copied, Bytes, Same, NewReader. -/
namespace Go.Proofs.Ytdcnbakmmkbodaa
set_option linter.unusedVariables false
set_option linter.unusedSimpArgs false
open Go.RowKit Dg

/-- A slice of bytes that can be read. -/
def SlAt (w : World) (v : Value) (l : List Nat) : Prop :=
  ∃ ao cap, v = .slice ao l.length cap ∧ ∀ j x, l[j]? = some x → ∃ b off, ao = some ⟨b, off, none⟩ ∧ w.cell? ⟨b, off + j, none⟩ = some (.int .u8 ((x : Nat) : Int))

theorem SlAt.kept {w w' : World} {v : Value} {l : List Nat} {F : Nat → Prop} (h : SlAt w v l) (hk : Kept F w w') (hF : ∀ k, v.ownBlock = some k → ¬ F k) : SlAt w' v l := by
  obtain ⟨ao, cap, rfl, hc⟩ := h
  refine ⟨ao, cap, rfl, fun j x hx => ?_⟩
  obtain ⟨b, off, rfl, hcell⟩ := hc j x hx
  refine ⟨b, off, rfl, ?_⟩
  rw [hk.cell (World.block_lt_of_cell? w _ hcell) (hF b rfl)]
  exact hcell

theorem SlAt.nil (w : World) : SlAt w (.slice none 0 0) [] := ⟨none, 0, rfl, fun j x hx => by simp at hx⟩

theorem SlAt.of_owns {w : World} {base : Nat} {v : Value} {n : Nat} {l : List Nat} (h : w.ownsRow base 5 1 v n (u8s l)) : SlAt w v l := by
  have hl : l.length = n := by have := h.1; simpa using this
  rcases h.2 with ⟨rfl, rfl⟩ | ⟨g, cap, cur, rfl, hb, hh, hn, _, hcs, htake⟩
  · have : l = [] := List.eq_nil_of_length_eq_zero hl
    subst this
    exact SlAt.nil w
  · refine ⟨some ⟨g, 0, none⟩, cap, by rw [hl], fun j x hx => ⟨g, 0, rfl, ?_⟩⟩
    have hj : j < l.length := (List.getElem?_eq_some_iff.1 hx).1
    have e : (u8s l)[j]? = some (.int .u8 ((x : Nat) : Int)) := by rw [u8s_get, hx]; rfl
    rw [← htake, List.getElem?_take, if_pos (by omega)] at e
    simp only [World.cell?, hh]
    simpa using e

end Go.Proofs.Ytdcnbakmmkbodaa

/- Bytes; the reader: NewReader, digit, Left, Get. -/
namespace Go.Proofs.Ytdcnbakmmkbodaa
set_option linter.unusedVariables false
set_option linter.unusedSimpArgs false
open Go.RowKit Dg

/-- New bytes: where they lie, what they are; nothing old has turned. -/
def NewBytes (w w' : World) (l : List Nat) : Prop :=
  w'.ownsRow w.heap.size 5 1 (.slice (some ⟨w.heap.size, 0, none⟩) l.length l.length) l.length (u8s l) ∧ Below w.heap.size w w'

theorem Kept.of_below {F : Nat → Prop} {w w' : World} (h : Below w.heap.size w w') : Kept F w w' := ⟨h.os, h.tape, h.output, h.size, fun k hk _ => h.block k hk⟩

theorem bit_of (x j : Nat) (d : Bool) (hx : x < 256) (hd : digitOf x j = d) : bits BinOp.and IntKind.u8 ((x : Int) / 2 ^ (7 - j)) 1 = (d.toNat : Int) := by
  have e : (x : Int) / 2 ^ (7 - j) = ((x / 2 ^ (7 - j) : Nat) : Int) := by push_cast; rfl
  have hlt : x / 2 ^ (7 - j) < 256 := Nat.lt_of_le_of_lt (Nat.div_le_self _ _) hx
  rw [e]
  have e1 : (1 : Int) = ((1 : Nat) : Int) := rfl
  rw [e1, u8_and_nat _ _ hlt (by decide), nat_mask1, ← hd]
  unfold digitOf
  have h2 : x / 2 ^ (7 - j) % 2 = 0 ∨ x / 2 ^ (7 - j) % 2 = 1 := by omega
  rcases h2 with h | h <;> simp [h]

end Go.Proofs.Ytdcnbakmmkbodaa

/- The reader: Get. -/
namespace Go.Proofs.Ytdcnbakmmkbodaa
set_option linter.unusedVariables false
set_option linter.unusedSimpArgs false
open Go.RowKit Dg

theorem getElem?_drop_head (ds : List Bool) (k : Nat) (h : k < ds.length) : ∃ d, ds[k]? = some d := ⟨ds[k], by simp [h]⟩

end Go.Proofs.Ytdcnbakmmkbodaa

/- Same at like bytes; the document's example. -/
namespace Go.Proofs.Ytdcnbakmmkbodaa
set_option linter.unusedVariables false
set_option linter.unusedSimpArgs false
open Go.RowKit Dg

set_option maxHeartbeats 1000000 in
theorem same_any (w : World) (v1 v2 : Value) (l : List Nat) (h1 : SlAt w v1 l) (h2 : SlAt w v2 l) (hl : l.length ≤ 4398046511104) :
    Calls Try.prog 15 #[v1, v2] w fun e w' => e = .returned (.bool true) ∧ ∃ n, w' = w.drewN n := by
  obtain ⟨a1, c1, rfl, hc1⟩ := h1
  obtain ⟨a2, c2, rfl, hc2⟩ := h2
  have H1 : Hid (∀ j x, l[j]? = some x → ∃ b off, a1 = some ⟨b, off, none⟩ ∧ w.cell? ⟨b, off + j, none⟩ = some (.int .u8 ((x : Nat) : Int))) := hc1
  have H2 : Hid (∀ j x, l[j]? = some x → ∃ b off, a2 = some ⟨b, off, none⟩ ∧ w.cell? ⟨b, off + j, none⟩ = some (.int .u8 ((x : Nat) : Int))) := hc2
  clear hc1 hc2
  go_enter Try.func15, Try.ntmps15
  go_wp2
  go_loopw [5] (fun i wr => ∃ k m : Nat, k ≤ l.length ∧ i = .int .i64 k ∧ wr = w.drewN m) (fun i _ => l.length - (intOf i).toNat)
  case atStart => exact ⟨0, 0, Nat.zero_le _, rfl, rfl⟩
  case round =>
    obtain ⟨k, m, hk, rfl, rfl⟩ := hrel
    by_cases hkn : k < l.length
    · obtain ⟨b1, o1, rfl, e1⟩ := H1.out k l[k] (by simp [hkn])
      obtain ⟨b2, o2, rfl, e2⟩ := H2.out k l[k] (by simp [hkn])
      obtain ⟨x, hx⟩ : ∃ x : Nat, x = l[k] := ⟨_, rfl⟩
      rw [← hx] at e1 e2
      clear hx H1 H2
      go_wp2
      go_region
      all_goals go_wp2
      all_goals go_roundw
      case rel => exact ⟨k + 1, m + 1, by omega, by go_num, rfl⟩
      case measure => simp [intOf]; omega
    · go_wp2
      go_ret
      exact ⟨rfl, m, rfl⟩

/-- A change of a writer that lies from B on turns nothing below B. -/
theorem Kept.below_of {F : Nat → Prop} {B : Nat} {w0 w w' : World} (hk : Kept F w w') (h0 : Below B w0 w) (hF : ∀ k, F k → B ≤ k) (hB : B ≤ w.heap.size) : Below B w0 w' :=
  h0.trans ⟨hk.os, hk.tape, hk.output, hk.size, fun k hk' => hk.block k (by omega) (fun hf => by have := hF k hf; omega)⟩

theorem below_drewN {B : Nat} {w0 w : World} (h : Below B w0 w) (n : Nat) : Below B w0 (w.drewN n) := ⟨h.os, h.tape, h.output, h.size, h.block⟩

theorem wakes_l {w2 w3 : World} {l : List Nat} (h : NewBytes w2 w3 l) (o : Obj) : SlAt (w3.alloc o) (.slice (some ⟨w2.heap.size, 0, none⟩) l.length l.length) l :=
  SlAt.of_owns (h.1.alloc o)
theorem wakes_r (w3 : World) (l : List Nat) (h : l = [80]) : SlAt (w3.alloc (.cells #[.int .u8 80] 5)) (.slice (some ⟨w3.heap.size, 0, none⟩) 1 1) l := by
  subst h
  refine ⟨some ⟨w3.heap.size, 0, none⟩, 1, rfl, fun j x hx => ⟨w3.heap.size, 0, rfl, ?_⟩⟩
  match j, hx with
  | 0, hx => simp at hx; subst hx; simp

end Go.Proofs.Ytdcnbakmmkbodaa

/- The contracts once more, over numbers as a walk spells them. -/
namespace Go.Proofs.Ytdcnbakmmkbodaa
set_option linter.unusedVariables false
set_option linter.unusedSimpArgs false
open Go.RowKit Dg

theorem within_nat (v : Int) (n : Nat) (w : World) (hv1 : -9223372036854775808 ≤ v) (hv2 : v ≤ 9223372036854775807) (hn1 : 1 ≤ n) (hn2 : n ≤ 4611686018427387904) (I : Int) (hI : I = (n : Int)) :
    Calls Try.prog 9 #[.int .i64 v, .int .i64 I] w fun e w' => ∃ k : Nat, e = .returned (.int .i64 (k : Int)) ∧ k < n ∧ (k : Int) = v % n ∧ w = w' := by
  subst hI
  refine (within_any v n w hv1 hv2 (by omega) (by omega)).mono ?_
  rintro e w' ⟨rfl, rfl⟩
  refine ⟨(v % n).toNat, ?_, ?_, ?_, rfl⟩
  · have : 0 ≤ v % (n : Int) := Int.emod_nonneg _ (by omega)
    exact ret_int (by omega)
  · have : v % (n : Int) < n := Int.emod_lt_of_pos _ (by omega)
    omega
  · have : 0 ≤ v % (n : Int) := Int.emod_nonneg _ (by omega)
    omega

theorem wrap64_pow (k : Nat) (hk : k ≤ 62) : wrap64 (2 ^ k) = ((2 ^ k : Nat) : Int) := by
  have h1 : 2 ^ k ≤ 2 ^ 62 := Nat.pow_le_pow_right (by decide) hk
  have h2 : (2 : Nat) ^ 62 = 4611686018427387904 := by decide
  rw [← pow_cast k]
  generalize 2 ^ k = P at h1 ⊢
  unfold wrap64
  omega

theorem Wf_nil {b k : Nat} (h : Wf b (.slice none 0 0) k) : k = b := by
  rcases h with h | h
  · exact h
  · simp [Value.ownBlock] at h

/-- What is read of digits that were written. -/
theorem taken (ds es fs : List Bool) (h : ds = es ++ fs) (k n : Nat) (hk : k = es.length) (hn : n ≤ fs.length) : ((unpack (pack ds)).drop k).take n = fs.take n := by
  rw [unpack_pack, h, hk, List.append_assoc, List.drop_left, List.take_append_of_le_length hn]

theorem and_mask (v m : Nat) (hv : v < 4611686018427387904) (hm : m ≤ 31) : bits BinOp.and IntKind.i64 (v : Int) (2 ^ m - 1) = ((v % 2 ^ m : Nat) : Int) := by
  have hp : 2 ^ m ≤ 2 ^ 31 := Nat.pow_le_pow_right (by decide) hm
  have hp2 : (2 : Nat) ^ 31 = 2147483648 := by decide
  have hp0 : 0 < 2 ^ m := Nat.pow_pos (by decide)
  have e : ((2 : Int) ^ m - 1) = ((2 ^ m - 1 : Nat) : Int) := by rw [← pow_cast]; omega
  rw [e]
  show IntKind.i64.wrap ((BitVec.ofInt 64 ((v : Nat) : Int) &&& BitVec.ofInt 64 ((2 ^ m - 1 : Nat) : Int)).toNat : Int) = _
  rw [BitVec.toNat_and, ofInt_u64 v (by omega), ofInt_u64 (2 ^ m - 1) (by omega), Nat.and_two_pow_sub_one_eq_mod]
  have hlt : v % 2 ^ m < 2 ^ m := Nat.mod_lt _ hp0
  have hw : ∀ n : Nat, n < 9223372036854775808 → IntKind.i64.wrap ((n : Nat) : Int) = (n : Int) := by
    intro n hn
    simp [IntKind.wrap, IntKind.bits, IntKind.signed]
    omega
  exact hw _ (by omega)

theorem and_mask' (v m : Nat) (hv : v < 4611686018427387904) (hm : m ≤ 31) : bits BinOp.and IntKind.i64 (v : Int) (wrap64 (wrap64 (2 ^ m) - 1)) = (v : Int) % 2 ^ m := by
  have hp : 2 ^ m ≤ 2 ^ 31 := Nat.pow_le_pow_right (by decide) hm
  have hp2 : (2 : Nat) ^ 31 = 2147483648 := by decide
  have e : wrap64 (wrap64 (2 ^ m) - 1) = (2 : Int) ^ m - 1 := by
    rw [wrap64_pow m (by omega), ← pow_cast]
    generalize 2 ^ m = P at hp ⊢
    unfold wrap64
    omega
  rw [e, and_mask v m hv hm]
  push_cast; rfl

theorem SlAt.below {w w' : World} {v : Value} {l : List Nat} (h : SlAt w v l) (hb : Below w.heap.size w w') : SlAt w' v l :=
  h.kept (F := fun _ => False) (Kept.of_below hb) (fun _ _ h => h)
end Go.Proofs.Ytdcnbakmmkbodaa

/- The reader: Ones and Rest. -/
namespace Go.Proofs.Ytdcnbakmmkbodaa
set_option linter.unusedVariables false
set_option linter.unusedSimpArgs false
open Go.RowKit Dg

end Go.Proofs.Ytdcnbakmmkbodaa

/- A slice of bytes that came in, as the walks want it; Cut. -/
namespace Go.Proofs.Ytdcnbakmmkbodaa
set_option linter.unusedVariables false
set_option linter.unusedSimpArgs false
open Go.RowKit Dg

/-- A slice of integers that came in: it is nil; or it leads to a row of 'cap' cells, the numbers 'zs' (the first 'len' are its elements, the rest its spare room), each fitting its kind. -/
def IsRow (k : IntKind) (w : World) (a : Option Addr) (len cap : Nat) (zs : List Int) : Prop :=
  (a = none ∧ len = 0 ∧ cap = 0 ∧ zs = []) ∨
  ∃ x, a = some x ∧ len ≤ cap ∧ cap ≤ maxLen ∧ zs.length = cap ∧ (∀ i, i < zs.length → w.cell? (x.add i) = some (.int k (zs.getD i 0))) ∧ ∀ n ∈ zs, (Lit.int k n).wf = true

theorem spot_of_cell {w : World} {a : Addr} {v : Value} (h : w.cell? a = some v) : a.spot = none := by
  unfold World.cell? at h
  split at h
  · split at h
    · cases h
    · rename_i hs; simpa using hs
  · cases h

theorem wf_u8 {x : Int} (h : (Lit.int .u8 x).wf = true) : 0 ≤ x ∧ x < 256 := by
  simp [Lit.wf, IntKind.min, IntKind.max, IntKind.signed, IntKind.bits] at h
  omega

/-- Its bytes. -/
theorem IsRow.bytes {w : World} {a : Option Addr} {len cap : Nat} {zs : List Int} (h : IsRow .u8 w a len cap zs) :
    ∃ l : List Nat, l.length = len ∧ (∀ x ∈ l, x < 256) ∧ ∀ n, n ≤ len → SlAt w (.slice a n cap) (l.take n) := by
  rcases h with ⟨rfl, rfl, rfl, rfl⟩ | ⟨x, rfl, hle, hm, hz, hc, hwf⟩
  · exact ⟨[], rfl, fun x hx => by simp at hx, fun n hn => by have : n = 0 := by omega
                                                              subst this; exact SlAt.nil w⟩
  · refine ⟨(zs.take len).map Int.toNat, by simp; omega, ?_, ?_⟩
    · intro y hy
      simp only [List.mem_map] at hy
      obtain ⟨z, hz1, rfl⟩ := hy
      have := wf_u8 (hwf z (List.mem_of_mem_take hz1))
      omega
    · intro n hn
      refine ⟨some x, cap, by simp; omega, fun j y hy => ?_⟩
      have hj : j < n := by have := (List.getElem?_eq_some_iff.1 hy).1; simp at this; omega
      have hj2 : j < zs.length := by omega
      have hcell := hc j hj2
      have hsp := spot_of_cell (hc 0 (by omega))
      have hx : x = ⟨x.block, x.off, none⟩ := by
        obtain ⟨b, o, s⟩ := x
        cases s with
        | none => rfl
        | some s => simp [Addr.add] at hsp
      refine ⟨x.block, x.off, by rw [← hx], ?_⟩
      rw [hx] at hcell
      have hadd : (⟨x.block, x.off, none⟩ : Addr).add j = ⟨x.block, x.off + j, none⟩ := by simp [Addr.add]
      rw [hadd] at hcell
      have hyv : y = (zs.getD j 0).toNat := by
        simp [List.getElem?_take, hj, hj2, show j < len by omega] at hy
        simp [List.getD, hj2, hy]
      have hw := wf_u8 (hwf (zs.getD j 0) (by simp [List.getD, hj2]))
      rw [hyv, hcell]
      congr 2
      omega

set_option maxHeartbeats 400000 in
theorem cut_any (w : World) (a : Option Addr) (len cap n : Nat) (hn : n ≤ 4096) (hle : len ≤ cap) (hm : cap ≤ maxLen) (h0 : a = none → len = 0 ∧ cap = 0) :
    Calls Try.prog 18 #[.slice a len cap, .int .i64 n] w fun e w' => e = .returned (.slice a (min len n) cap) ∧ w = w' := by
  unfold maxLen at hm
  go_enter Try.func18, Try.ntmps18
  go_wp2
  · go_ret
    exact ⟨by rw [Nat.min_eq_right (by omega)]; rfl, rfl⟩
  · go_ret
    exact ⟨by rw [Nat.min_eq_left (by omega)]; rfl, rfl⟩

end Go.Proofs.Ytdcnbakmmkbodaa

/- The end of a law's row: nothing that was there has turned. -/
namespace Go.Proofs.Ytdcnbakmmkbodaa
set_option linter.unusedVariables false
set_option linter.unusedSimpArgs false
open Go.ChangeShapes Go.WideShapes Go.ChangeAt Go.RowKit

theorem Try.own : ownKnob Try.prog.godebug = none := by kernel_rfl
theorem Try.laidOut : laidOutB Try.prog = true := by kernel_rfl

theorem post_below {H : Type} {enc : TypeId × Value → H} {P : Program} {f : Func} {s : ChangeSpec} {W W' : World} {args : Array Value} {v : Value} {ds gs : List (DataW H)} {before pa pv : List MemPlace}
    (hW : DataW.Whole enc P f.params.toList s.vars false W args.toList ds gs before)
    (hres : ∀ (b : Nat) (sp : Nat → Bool) (hd : Bool), DataW.TrodAll enc P W' b sp hd f.resultTypes.toList (v.resultList f.resultTypes.size) (s.fn H (ds ++ gs)).results [])
    (hargs : DataW.TrodAll enc P W' 0 (fun b => decide (b < W.heap.size)) true f.params.toList args.toList (s.fn H (ds ++ gs)).args pa)
    (hvars : DataW.TrodVars enc P W' (fun b => decide (b < W.heap.size)) s.vars (s.fn H (ds ++ gs)).vars pv)
    (hk : Below W.heap.size W W') :
    s.post enc P f false true false false W args v W' :=
  ⟨ds, gs, before, [], pa, pv, hW, hres _ _ _, hargs, hvars, hk.frame _, fun h => by cases h⟩

theorem wf_i64 {x : Int} (h : (Lit.int .i64 x).wf = true) : -9223372036854775808 ≤ x ∧ x ≤ 9223372036854775807 := by
  simp [Lit.wf, IntKind.min, IntKind.max, IntKind.signed, IntKind.bits] at h
  omega

end Go.Proofs.Ytdcnbakmmkbodaa

/- A slice of calls that came in, as the walks want it. -/
namespace Go.Proofs.Ytdcnbakmmkbodaa
set_option linter.unusedVariables false
set_option linter.unusedSimpArgs false
open Go.ChangeShapes Go.WideShapes Go.ChangeAt Go.RowKit Go.Deep

theorem Try.cells3 : Try.prog.cellsOf 3 = 1 := by kernel_rfl

/-- An int. -/
def I64 (x : Int) : Prop := -9223372036854775808 ≤ x ∧ x ≤ 9223372036854775807

/-- Calls that can be read: what is in the three fields of each. -/
def ActsAt (w : World) (a : Option Addr) (len : Nat) (f : Nat → Int × Int × Int) : Prop :=
  ∀ i, i < len → ∃ b off, a = some ⟨b, off, none⟩ ∧ b < w.heap.size ∧ w.cell? ⟨b, off + i * 3, none⟩ = some (.int .i64 (f i).1) ∧ w.cell? ⟨b, off + i * 3 + 1, none⟩ = some (.int .i64 (f i).2.1) ∧ w.cell? ⟨b, off + i * 3 + 2, none⟩ = some (.int .i64 (f i).2.2) ∧
    I64 (f i).1 ∧ I64 (f i).2.1 ∧ I64 (f i).2.2

theorem ActsAt.below {w w' : World} {a : Option Addr} {len : Nat} {f : Nat → Int × Int × Int} (h : ActsAt w a len f) (hb : Below w.heap.size w w') : ActsAt w' a len f := by
  intro i hi
  obtain ⟨b, off, e, hl, h0, h1, h2, r⟩ := h i hi
  exact ⟨b, off, e, Nat.lt_of_lt_of_le hl hb.size, by rw [hb.cell (p := ⟨b, _, none⟩) hl]; exact h0, by rw [hb.cell (p := ⟨b, _, none⟩) hl]; exact h1, by rw [hb.cell (p := ⟨b, _, none⟩) hl]; exact h2, r⟩

theorem cells3_of {w : World} {base : Nat} {a : Addr} {cs : List Value} (h : w.cells? base a 3 = some cs) : ∃ x y z, cs = [x, y, z] ∧ w.cell? a = some x ∧ w.cell? (a.add 1) = some y ∧ w.cell? (a.add 2) = some z := by
  unfold World.cells? at h
  split at h
  · have e : List.range 3 = [0, 1, 2] := by decide
    rw [e] at h
    simp only [List.mapM_cons, List.mapM_nil, Option.bind_eq_bind, Option.pure_def] at h
    have e0 : a.add 0 = a := by simp [Addr.add]
    rw [e0] at h
    cases h0 : w.cell? a with
    | none => simp [h0] at h
    | some x =>
      cases h1 : w.cell? (a.add 1) with
      | none => simp [h0, h1] at h
      | some y =>
        cases h2 : w.cell? (a.add 2) with
        | none => simp [h0, h1, h2] at h
        | some z =>
          simp [h0, h1, h2] at h
          exact ⟨x, y, z, h.symm, rfl, rfl, rfl⟩
  · cases h

theorem open_bytes {H : Type} {enc : TypeId × Value → H} {W : World} {a : Option Addr} {len cap : Nat} {d : DataW H} {p : List MemPlace}
    (h : DataW.Trod enc Try.prog W 0 (fun _ => true) true 26 (.slice a len cap) d p) : ∃ zs, IsRow .u8 W a len cap zs := by
  obtain ⟨fuel, hf⟩ := h
  rcases open_ints Try.underlying26 Try.underlying5 (by kernel_rfl) hf with ⟨hcs, _⟩ | ⟨x, l, c, zs, hcs, _, hl, hm, hz, _, hcell, hwz⟩
  · simp [Value.cells] at hcs
    obtain ⟨rfl, rfl, rfl⟩ := hcs
    exact ⟨[], .inl ⟨rfl, rfl, rfl, rfl⟩⟩
  · simp [Value.cells] at hcs
    obtain ⟨rfl, rfl, rfl⟩ := hcs
    exact ⟨zs, .inr ⟨_, rfl, hl, hm, by simpa using hz, hcell, hwz⟩⟩

end Go.Proofs.Ytdcnbakmmkbodaa

/- The document's own answers, by their contracts: digits as bytes: Get, TakeOnes, Rest. -/
namespace Go.Proofs.Ytdcnbakmmkbodaa
set_option linter.unusedVariables false
set_option linter.unusedSimpArgs false
open Go.RowKit Dg

/-- Digits, a byte each, that can be read. -/
def BtAt (w : World) (v : Value) (ds : List Bool) : Prop :=
  (v = .slice none 0 0 ∧ ds = []) ∨
  ∃ b off cap, v = .slice (some ⟨b, off, none⟩) ds.length cap ∧ b < w.heap.size ∧ ds.length ≤ cap ∧ cap ≤ maxLen ∧ ∀ j d, ds[j]? = some d → w.cell? ⟨b, off + j, none⟩ = some (.int .u8 (d.toNat : Int))

theorem BtAt.kept {w w' : World} {v : Value} {ds : List Bool} {F : Nat → Prop} (h : BtAt w v ds) (hk : Kept F w w') (hF : ∀ k, v.ownBlock = some k → ¬ F k) : BtAt w' v ds := by
  rcases h with h | ⟨b, off, cap, rfl, hb, hl, hm, hc⟩
  · exact Or.inl h
  · refine Or.inr ⟨b, off, cap, rfl, Nat.lt_of_lt_of_le hb hk.size, hl, hm, fun j d hd => ?_⟩
    rw [hk.cell hb (hF b rfl)]
    exact hc j d hd
theorem BtAt.below {w w' : World} {v : Value} {ds : List Bool} (h : BtAt w v ds) (hb : Below w.heap.size w w') : BtAt w' v ds :=
  h.kept (F := fun _ => False) (Kept.of_below hb) (fun _ _ h => h)
theorem BtAt.drew {w : World} {v : Value} {ds : List Bool} (h : BtAt w v ds) : BtAt w.drew v ds := h
theorem BtAt.drewN {w : World} {v : Value} {ds : List Bool} (n : Nat) (h : BtAt w v ds) : BtAt (w.drewN n) v ds := h
theorem BtAt.lt {w : World} {v : Value} {ds : List Bool} (h : BtAt w v ds) : ∀ k, v.ownBlock = some k → k < w.heap.size := by
  rcases h with ⟨rfl, _⟩ | ⟨b, off, cap, rfl, hb, _⟩
  · intro k hk; simp [Value.ownBlock] at hk
  · intro k hk; simp [Value.ownBlock] at hk; omega

/-- What is behind the first n digits. -/
theorem BtAt.drop {w : World} {b off cap o n : Nat} {ds : List Bool} (hb : b < w.heap.size) (hn : n ≤ ds.length) (hl : ds.length ≤ cap) (hm : cap ≤ maxLen) (hc : ∀ j d, ds[j]? = some d → w.cell? ⟨b, off + j, none⟩ = some (.int .u8 (d.toNat : Int))) (ho : cap ≠ n → o = off + n) :
    BtAt w (.slice (some ⟨b, o, none⟩) (ds.length - n) (cap - n)) (ds.drop n) := by
  refine Or.inr ⟨b, o, cap - n, by simp, hb, by simp; omega, by omega, fun j d hd => ?_⟩
  have hj : n + j < ds.length := by
    have := (List.getElem?_eq_some_iff.1 hd).1
    simp at this; omega
  rw [ho (by omega)]
  rw [List.getElem?_drop] at hd
  have := hc (n + j) d hd
  rw [Nat.add_assoc]
  exact this

/-- Get: what comes, how many are taken, whether it may be. -/
def getOut (ds : List Bool) (n : Int) : Nat × Nat × Bool :=
  if 0 ≤ n ∧ n ≤ 62 ∧ n ≤ ds.length then (num (ds.take n.toNat), n.toNat, true) else (0, 0, false)

end Go.Proofs.Ytdcnbakmmkbodaa

/- The document's own answers, by their contracts: TakeOnes, Rest. -/
namespace Go.Proofs.Ytdcnbakmmkbodaa
set_option linter.unusedVariables false
set_option linter.unusedSimpArgs false
open Go.RowKit Dg

/-- How many ones are ahead, m at most. -/
def lead : List Bool → Nat → Nat
  | [], _ => 0
  | _ :: _, 0 => 0
  | true :: ds, m + 1 => lead ds m + 1
  | false :: _, _ + 1 => 0
theorem lead_le (ds : List Bool) : ∀ m, lead ds m ≤ m := by
  induction ds with
  | nil => intro m; simp [lead]
  | cons d ds ih =>
    intro m
    cases m with
    | zero => simp [lead]
    | succ m => cases d with
      | true => have := ih m; simp [lead]; omega
      | false => simp [lead]
theorem lead_le_length (ds : List Bool) : ∀ m, lead ds m ≤ ds.length := by
  induction ds with
  | nil => intro m; simp [lead]
  | cons d ds ih =>
    intro m
    cases m with
    | zero => simp [lead]
    | succ m => cases d with
      | true => have := ih m; simp [lead]; omega
      | false => simp [lead]
theorem lead_true (ds : List Bool) : ∀ m i, i < lead ds m → ds[i]? = some true := by
  induction ds with
  | nil => intro m i h; simp [lead] at h
  | cons d ds ih =>
    intro m i h
    cases m with
    | zero => simp [lead] at h
    | succ m => cases d with
      | true =>
        simp only [lead] at h
        cases i with
        | zero => rfl
        | succ i => rw [List.getElem?_cons_succ]; exact ih m i (by omega)
      | false => simp [lead] at h
theorem lead_false (ds : List Bool) : ∀ m, lead ds m < m → lead ds m < ds.length → ds[lead ds m]? = some false := by
  induction ds with
  | nil => intro m _ h; simp at h
  | cons d ds ih =>
    intro m h1 h2
    cases m with
    | zero => omega
    | succ m => cases d with
      | true =>
        simp only [lead, List.length_cons] at h1 h2 ⊢
        rw [List.getElem?_cons_succ]
        exact ih m (by omega) (by omega)
      | false => simp [lead]

/-- Ones: what comes, how many are taken, whether it may be. -/
def onesOut (ds : List Bool) (most : Int) : Nat × Nat × Bool :=
  if 0 ≤ most ∧ most ≤ 1024 then
    if lead ds most.toNat = most.toNat then (most.toNat, most.toNat, true)
    else if lead ds most.toNat = ds.length then (0, 0, false)
    else (lead ds most.toNat, lead ds most.toNat + 1, true)
  else (0, 0, false)

end Go.Proofs.Ytdcnbakmmkbodaa

/- A reader and the document's own digits side by side: each call by one contract for all arguments. -/
namespace Go.Proofs.Ytdcnbakmmkbodaa
set_option linter.unusedVariables false
set_option linter.unusedSimpArgs false
open Go.RowKit Dg

theorem cell_one {w : World} {b off : Nat} {ds : List Bool} (hc : ∀ j d, ds[j]? = some d → w.cell? ⟨b, off + j, none⟩ = some (.int .u8 (d.toNat : Int))) {i : Nat} (h : ds[i]? = some true) : w.cell? ⟨b, off + i, none⟩ = some (.int .u8 1) := hc i true h
theorem cell_nought {w : World} {b off : Nat} {ds : List Bool} (hc : ∀ j d, ds[j]? = some d → w.cell? ⟨b, off + j, none⟩ = some (.int .u8 (d.toNat : Int))) {i : Nat} (h : ds[i]? = some false) : w.cell? ⟨b, off + i, none⟩ = some (.int .u8 0) := hc i false h

/-- What a reader has left. -/
def left (l : List Nat) (k : Nat) : List Bool := (unpack l).drop k
theorem left_get (l : List Nat) (k i : Nat) : (left l k)[i]? = (unpack l)[k + i]? := by simp [left]
theorem left_len (l : List Nat) (k : Nat) : (left l k).length = 8 * l.length - k := by simp [left]
theorem left_drop (l : List Nat) (k n : Nat) : left l (k + n) = (left l k).drop n := by simp [left]

/-- Are all noughts? -/
def noOnes (ds : List Bool) : Bool := !ds.any id
theorem noOnes_cons (d : Bool) (ds : List Bool) : noOnes (d :: ds) = (!d && noOnes ds) := by simp [noOnes]
theorem noOnes_split (ds : List Bool) : (noOnes ds = true ∧ ∀ i, i < ds.length → ds[i]? = some false) ∨ (noOnes ds = false ∧ ∃ c : Nat, ds[c]? = some true ∧ ∀ i : Nat, i < c → ds[i]? = some false) := by
  induction ds with
  | nil => exact Or.inl ⟨rfl, fun i h => by simp at h⟩
  | cons d ds ih =>
    cases d with
    | true => exact Or.inr ⟨by simp [noOnes], 0, rfl, fun i h => by omega⟩
    | false =>
      rw [noOnes_cons]
      rcases ih with ⟨h1, h2⟩ | ⟨h1, c, h2, h3⟩
      · refine Or.inl ⟨by simpa using h1, fun i h => ?_⟩
        cases i with
        | zero => rfl
        | succ i => rw [List.getElem?_cons_succ]; exact h2 i (by simpa using h)
      · refine Or.inr ⟨by simpa using h1, c + 1, by rw [List.getElem?_cons_succ]; exact h2, fun i h => ?_⟩
        cases i with
        | zero => rfl
        | succ i => rw [List.getElem?_cons_succ]; exact h3 i (by omega)

end Go.Proofs.Ytdcnbakmmkbodaa

/- The document's own answers: Of. -/
namespace Go.Proofs.Ytdcnbakmmkbodaa
set_option linter.unusedVariables false
set_option linter.unusedSimpArgs false
open Go.RowKit Dg

/-- Digits as bytes. -/
def bn (ds : List Bool) : List Nat := ds.map Bool.toNat
@[simp] theorem length_bn (ds : List Bool) : (bn ds).length = ds.length := by simp [bn]
theorem bn_snoc (ds : List Bool) (d : Bool) : u8s (bn (ds ++ [d])) = u8s (bn ds) ++ [.int .u8 (d.toNat : Int)] := by simp [u8s, bn]
theorem bn_get (ds : List Bool) (j : Nat) : (u8s (bn ds))[j]? = ds[j]?.map fun d => Value.int .u8 (d.toNat : Int) := by simp [u8s, bn]; rfl

theorem BtAt.of_owns {w : World} {base : Nat} {v : Value} {ds : List Bool} (h : w.ownsRow base 5 1 v ds.length (u8s (bn ds))) : BtAt w v ds := by
  rcases h.2 with ⟨rfl, hn⟩ | ⟨g, cap, cur, rfl, hb, hh, hn, hm, hcs, htake⟩
  · exact Or.inl ⟨rfl, List.eq_nil_of_length_eq_zero hn⟩
  · refine Or.inr ⟨g, 0, cap, rfl, (Array.getElem?_eq_some_iff.1 hh).1, hn, hm, fun j d hd => ?_⟩
    have hj : j < ds.length := (List.getElem?_eq_some_iff.1 hd).1
    have e : (u8s (bn ds))[j]? = some (.int .u8 (d.toNat : Int)) := by rw [bn_get, hd]; rfl
    rw [← htake, List.getElem?_take, if_pos (by omega)] at e
    simp only [World.cell?, hh]
    simpa using e

theorem bit_k (x k : Nat) (d : Bool) (hx : x < 256) (hd : d = ((x : Int) / 2 ^ k % 2 == 1)) : bits BinOp.and IntKind.u8 ((x : Int) / 2 ^ k) 1 = (d.toNat : Int) := by
  have e : (x : Int) / 2 ^ k = ((x / 2 ^ k : Nat) : Int) := by push_cast; rfl
  have hlt : x / 2 ^ k < 256 := Nat.lt_of_le_of_lt (Nat.div_le_self _ _) hx
  rw [e] at hd ⊢
  have e1 : (1 : Int) = ((1 : Nat) : Int) := rfl
  rw [e1, u8_and_nat _ _ hlt (by decide), nat_mask1, hd]
  have h2 : x / 2 ^ k % 2 = 0 ∨ x / 2 ^ k % 2 = 1 := by omega
  have e3 : ((x / 2 ^ k : Nat) : Int) % 2 = ((x / 2 ^ k % 2 : Nat) : Int) := by push_cast; rfl
  rw [e3]
  rcases h2 with h | h <;> rw [h] <;> rfl

theorem dig8 (x : Nat) : dig (x : Int) 8 = (List.range 8).map (digitOf x) := by
  have h : ∀ k j : Nat, 7 - j = k → ((x : Int) / 2 ^ k % 2 == 1) = digitOf x j := by
    intro k j hk
    unfold digitOf
    rw [hk]
    have e : (x : Int) / 2 ^ k % 2 = ((x / 2 ^ k % 2 : Nat) : Int) := by push_cast; rfl
    rw [e]
    have h2 : x / 2 ^ k % 2 = 0 ∨ x / 2 ^ k % 2 = 1 := by omega
    rcases h2 with h | h <;> rw [h] <;> rfl
  have e : List.range 8 = [0, 1, 2, 3, 4, 5, 6, 7] := by decide
  rw [e]
  simp only [dig, List.map_cons, List.map_nil]
  rw [h 7 0 rfl, h 6 1 rfl, h 5 2 rfl, h 4 3 rfl, h 3 4 rfl, h 2 5 rfl, h 1 6 rfl, h 0 7 rfl]

theorem unpack_snoc (l : List Nat) (x : Nat) : unpack (l ++ [x]) = unpack l ++ dig (x : Int) 8 := by rw [dig8]; simp [unpack]

/-- What of bytes a loop has laid as digits. -/
def OfAt (w wr : World) (v : Value) (ds : List Bool) : Prop := wr.ownsRow w.heap.size 5 1 v ds.length (u8s (bn ds)) ∧ Below w.heap.size w wr

end Go.Proofs.Ytdcnbakmmkbodaa

/- Lend and Intact. -/
namespace Go.Proofs.Ytdcnbakmmkbodaa
set_option linter.unusedVariables false
set_option linter.unusedSimpArgs false
open Go.RowKit Dg

/-- 'make([]T, n, c)': a new row of c zero elements. -/
theorem wpList_make_cap {P : Program} (w : World) {ops : Array Oper} {rest : List Oper} {o : Oper} {a : Act} {Q : Exit → Act → World → Prop}
    (hg : o.guard = none) (l c : Operand) (t : TypeId) (hop : o.op = Op.makeSlice t l c)
    (e : TypeId) (i : TypeInfo) (z : Value) (h1 : P.underlying t = some (.slice e)) (h2 : P.info? e = some i) (h3 : i.zero = some z)
    (kl kc : IntKind) (L C : Int) (n m : Nat) (hl : a.eval l = .int kl L) (hc : a.eval c = .int kc C) (hL : L = (n : Int)) (hC : C = (m : Int)) (hnm : n ≤ m) (b2 : i.bytes * m ≤ 281474976710656) (b3 : m ≤ maxLen)
    (hK : ∀ cur : Array Value, cur.size = m * i.size → wpList P ops Q rest (a.put o.dst (.slice (some ⟨w.heap.size, 0, none⟩) n m)) (w.alloc (.cells cur e))) :
    wpList P ops Q (o :: rest) a w := by
  refine wpList_plain hg fun K hK' => ?_
  have b3' : (m : Int) ≤ 9223372036854775807 := by unfold maxLen at b3; omega
  have b2' : (i.bytes : Int) * (m : Int) ≤ 281474976710656 := by
    have h : ((i.bytes * m : Nat) : Int) ≤ 281474976710656 := by omega
    rwa [Int.natCast_mul] at h
  have hrun := run_make (P := P) w t e i z h1 h2 h3 kl kc n m (by omega) (by omega) b2' b3'
  simp only [Int.toNat_natCast] at hrun
  subst hL
  subst hC
  unfold Oper.wp
  simp [execOp, hop, hl, hc, hrun, Result.andThen]
  exact hK' _ _ (hK _ (size_madeCells _ _))

/-- A row's cells, all of them. -/
def RowIs (w : World) (g : Nat) (X : List Value) : Prop := w.heap[g]? = some (.cells X.toArray 5 (0, 0))
theorem RowIs.cell {w : World} {g : Nat} {X : List Value} (h : RowIs w g X) {j : Nat} {u : Value} (hu : X[j]? = some u) : w.cell? ⟨g, j, none⟩ = some u := by
  have h' : w.heap[g]? = some (.cells X.toArray 5 (0, 0)) := h
  simp only [World.cell?, h']
  simpa using hu
theorem RowIs.frozen {w : World} {g : Nat} {X : List Value} (h : RowIs w g X) (j : Nat) : w.frozen? ⟨g, j, none⟩ = false := by
  have h' : w.heap[g]? = some (.cells X.toArray 5 (0, 0)) := h
  simp [World.frozen?, h']
theorem RowIs.set {w : World} {g : Nat} {X : List Value} (h : RowIs w g X) (j : Nat) (u : Value) : RowIs (w.setCell ⟨g, j, none⟩ u) g (X.set j u) := by
  have := heap_setCell_of (o := j) (show w.heap[g]? = some (.cells X.toArray 5 (0, 0)) from h) u
  unfold RowIs
  rw [this]
  simp
theorem RowIs.kept {w w' : World} {g : Nat} {X : List Value} {F : Nat → Prop} (h : RowIs w g X) (hk : Kept F w w') (hF : ¬ F g) : RowIs w' g X := by
  have h' : w.heap[g]? = some (.cells X.toArray 5 (0, 0)) := h
  unfold RowIs
  rw [hk.block g (Array.getElem?_eq_some_iff.1 h').1 hF]
  exact h'
theorem RowIs.below {w w' : World} {g : Nat} {X : List Value} (h : RowIs w g X) (hb : Below w.heap.size w w') : RowIs w' g X := h.kept (F := fun _ => False) (Kept.of_below hb) (fun h => h)
theorem RowIs.lt {w : World} {g : Nat} {X : List Value} (h : RowIs w g X) : g < w.heap.size := by
  have h' : w.heap[g]? = some (.cells X.toArray 5 (0, 0)) := h
  exact (Array.getElem?_eq_some_iff.1 h').1

end Go.Proofs.Ytdcnbakmmkbodaa

/- Rows of bytes of the call's own: cells, parts, copies; a cut slice of bytes. -/
namespace Go.Proofs.Ytdcnbakmmkbodaa
set_option linter.unusedVariables false
set_option linter.unusedSimpArgs false
open Go.RowKit Dg

/-- What a cut slice of bytes is. -/
theorem cut_row {w : World} {a : Option Addr} {len cap n : Nat} {zs : List Int} (hr : IsRow .u8 w a len cap zs) :
    ∃ l : List Nat, l.length = min len n ∧ (∀ x ∈ l, x < 256) ∧ SlAt w (.slice a (min len n) cap) l ∧ len ≤ cap ∧ cap ≤ maxLen ∧ (a = none → len = 0 ∧ cap = 0) := by
  obtain ⟨l0, hl0, hl256, hsl⟩ := hr.bytes
  have hcut : len ≤ cap ∧ cap ≤ maxLen ∧ (a = none → len = 0 ∧ cap = 0) := by
    rcases hr with ⟨rfl, rfl, rfl, rfl⟩ | ⟨x, rfl, hle, hm, hz, hc, hwf⟩
    · exact ⟨Nat.le_refl _, by decide, fun _ => ⟨rfl, rfl⟩⟩
    · exact ⟨hle, hm, fun h => by cases h⟩
  exact ⟨l0.take (min len n), by simp; omega, fun x hx => hl256 x (List.mem_of_mem_take hx), hsl _ (by omega), hcut⟩
theorem SlAt.lt {w : World} {v : Value} {l : List Nat} (h : SlAt w v l) (hne : l ≠ []) : ∀ k, v.ownBlock = some k → k < w.heap.size := by
  obtain ⟨a1, c1, rfl, hc1⟩ := h
  have hpos : 0 < l.length := List.length_pos_iff.2 hne
  obtain ⟨b1, o1, rfl, e⟩ := hc1 0 l[0] (by simp)
  intro k hk
  cases hk
  exact World.block_lt_of_cell? w _ e
theorem SlAt.kept' {w w' : World} {v : Value} {l : List Nat} {F : Nat → Prop} (h : SlAt w v l) (hk : Kept F w w') (hF : l ≠ [] → ∀ k, v.ownBlock = some k → ¬ F k) : SlAt w' v l := by
  by_cases hne : l = []
  · subst hne
    obtain ⟨a1, c1, rfl, _⟩ := h
    exact ⟨a1, c1, rfl, fun j x hx => by simp at hx⟩
  · exact h.kept hk (hF hne)
theorem SlAt.drewN {w : World} {v : Value} {l : List Nat} (h : SlAt w v l) (n : Nat) : SlAt (w.drewN n) v l := h
theorem SlAt.of_row {w : World} {g : Nat} {l r : List Nat} {c : Nat} (h : RowIs w g (u8s (l ++ r))) : SlAt w (.slice (some ⟨g, 0, none⟩) l.length c) l := by
  refine ⟨some ⟨g, 0, none⟩, c, rfl, fun j x hx => ⟨g, 0, rfl, ?_⟩⟩
  have hj : j < l.length := (List.getElem?_eq_some_iff.1 hx).1
  rw [Nat.zero_add]
  exact h.cell (by rw [u8s_get, List.getElem?_append_left hj, hx]; rfl)
/-- A row of bytes of the call's own. -/
def OwnBytes (w : World) (base : Nat) (v : Value) (l : List Nat) : Prop := w.ownsRow base 5 1 v l.length (u8s l)
set_option maxHeartbeats 1000000 in
theorem copyB_any (w : World) (sv : Value) (l : List Nat) (h : SlAt w sv l) (hl : l.length ≤ 1000000) (h0 : ∀ n c, sv = .slice none n c → c = 0) :
    Calls Try.prog 16 #[sv] w fun e w' => ∃ v, e = .returned v ∧ OwnBytes w' w.heap.size v l ∧ Below w.heap.size w w' := by
  obtain ⟨i0, hi, hz0, hz1, hz2⟩ := info_parts Try.info5
  obtain ⟨a1, c1, rfl, hc1⟩ := h
  have HC : Hid (∀ j x, l[j]? = some x → ∃ b off, a1 = some ⟨b, off, none⟩ ∧ w.cell? ⟨b, off + j, none⟩ = some (.int .u8 ((x : Nat) : Int))) := hc1
  clear hc1
  by_cases hne : l = []
  · subst hne
    cases a1 with
    | none =>
      obtain rfl : c1 = 0 := h0 _ _ rfl
      go_enter Try.func16, Try.ntmps16
      go_wp2_with (at_builtin; go_must (refine wpList_append_own_none rfl _ (.tmp 3) 26 rfl w.heap.size 5 i0 1 Try.underlying26 hi (.slice none 0 0) 0 [] rfl (World.ownsRow_nil _ _ _ _) rfl ?_))
      go_ret
      exact ⟨_, rfl, World.ownsRow_nil _ _ _ _, Below.refl _ _⟩
    | some x =>
      go_enter Try.func16, Try.ntmps16
      go_wp2_with (at_builtin; go_must (refine wpList_append_own _ rfl _ (.tmp 3) 26 rfl w.heap.size 5 i0 (.int .u8 0) 1 1 Try.underlying26 hi hz0 hz1 hz2 rfl (by decide) (.slice none 0 0) 0 [] rfl (World.ownsRow_nil _ _ _ _) x 0 c1 [] rfl (by simp) ?c1 ?c2 ?b1 ?b2 (Nat.le_refl _) ?_))
      case c1 => intro j u hu; simp at hu
      case c2 => intro u hu; simp at hu
      case b1 => decide
      case b2 => decide
      intro v' w' ho' hg' _
      have H1 : Hid (OwnBytes w' w.heap.size v' []) := by show World.ownsRow _ _ _ _ _ _ _; simpa [u8s] using ho'
      have H2 : Hid (Below w.heap.size w w') := (Below.refl _ _).grown hg' (Nat.le_refl _) (fun k hk => by cases hk)
      clear ho' hg'
      go_wp2
      go_ret
      exact ⟨_, rfl, H1.out, H2.out⟩
  · have hpos : 0 < l.length := List.length_pos_iff.2 hne
    obtain ⟨b1, o1, rfl, _⟩ := HC.out 0 l[0] (by simp)
    go_enter Try.func16, Try.ntmps16
    go_wp2_with (at_builtin; go_must (refine wpList_append_own _ rfl _ (.tmp 3) 26 rfl w.heap.size 5 i0 (.int .u8 0) 1 1 Try.underlying26 hi hz0 hz1 hz2 rfl (by decide) (.slice none 0 0) 0 [] rfl (World.ownsRow_nil _ _ _ _) ⟨b1, o1, none⟩ l.length c1 (u8s l) rfl (by simp) ?c1 ?c2 ?b1 ?b2 (Nat.le_refl _) ?_))
    case c1 =>
      intro j u hu
      rw [u8s_get] at hu
      obtain ⟨x, hx, rfl⟩ := Option.map_eq_some_iff.1 hu
      obtain ⟨b, off, e, hc⟩ := HC.out j x hx
      cases e
      have hadd : (⟨b1, o1, none⟩ : Addr).add j = ⟨b1, o1 + j, none⟩ := by simp [Addr.add]
      rw [hadd]
      exact hc
    case c2 => intro u hu; simp [u8s] at hu; obtain ⟨x, _, rfl⟩ := hu; rfl
    case b1 => unfold maxLen; omega
    case b2 => omega
    intro v' w' ho' hg' _
    have H1 : Hid (OwnBytes w' w.heap.size v' l) := by show World.ownsRow _ _ _ _ _ _ _; simpa using ho'
    have H2 : Hid (Below w.heap.size w w') := (Below.refl _ _).grown hg' (Nat.le_refl _) (fun k hk => by cases hk)
    clear ho' hg'
    go_wp2
    go_ret
    exact ⟨_, rfl, H1.out, H2.out⟩
set_option maxHeartbeats 1000000 in
/-- Same at unlike bytes. -/
theorem same_not (w : World) (v1 v2 : Value) (l1 l2 : List Nat) (h1 : SlAt w v1 l1) (h2 : SlAt w v2 l2) (hll : l2.length = l1.length) (hl : l1.length ≤ 1000000) (hne : l1 ≠ l2) :
    Calls Try.prog 15 #[v1, v2] w fun e w' => e = .returned (.bool false) ∧ ∃ n, w' = w.drewN n := by
  obtain ⟨a1, c1, rfl, hc1⟩ := h1
  obtain ⟨a2, c2, rfl, hc2⟩ := h2
  rw [hll]
  have H1 : Hid (∀ j x, l1[j]? = some x → ∃ b off, a1 = some ⟨b, off, none⟩ ∧ w.cell? ⟨b, off + j, none⟩ = some (.int .u8 ((x : Nat) : Int))) := hc1
  have H2 : Hid (∀ j x, l2[j]? = some x → ∃ b off, a2 = some ⟨b, off, none⟩ ∧ w.cell? ⟨b, off + j, none⟩ = some (.int .u8 ((x : Nat) : Int))) := hc2
  have HLL : Hid (l2.length = l1.length) := hll
  have HNE : Hid (l1 ≠ l2) := hne
  clear hc1 hc2 hll hne
  go_enter Try.func15, Try.ntmps15
  go_wp2
  go_loopw [5] (fun i wr => ∃ k m : Nat, k ≤ l1.length ∧ i = .int .i64 k ∧ Hid (l1.take k = l2.take k) ∧ wr = w.drewN m) (fun i _ => l1.length - (intOf i).toNat)
  case atStart => exact ⟨0, 0, Nat.zero_le _, rfl, rfl, rfl⟩
  case round =>
    obtain ⟨k, m, hk, rfl, hsame, rfl⟩ := hrel
    by_cases hkn : k < l1.length
    · have hk2 : k < l2.length := by rw [HLL.out]; exact hkn
      obtain ⟨b1, o1, rfl, e1⟩ := H1.out k l1[k] (by simp [hkn])
      obtain ⟨b2, o2, rfl, e2⟩ := H2.out k l2[k] (by simp [hk2])
      obtain ⟨x, hx⟩ : ∃ x : Nat, x = l1[k] := ⟨_, rfl⟩
      obtain ⟨y, hy⟩ : ∃ y : Nat, y = l2[k] := ⟨_, rfl⟩
      have HX : Hid (l1[k]? = some x) := by show _ = _; rw [hx]; simp [hkn]
      have HY : Hid (l2[k]? = some y) := by show _ = _; rw [hy]; simp [hk2]
      rw [← hx] at e1
      rw [← hy] at e2
      clear hx hy H1 H2 hk2
      by_cases hxy : x = y
      · have HXY : Hid (x = y) := hxy
        subst hxy
        go_wp2
        go_region
        all_goals go_wp2
        all_goals go_roundw
        case rel => exact ⟨k + 1, m + 1, by omega, by go_num, by show _ = _; rw [List.take_add_one, List.take_add_one, hsame.out, HX.out, HY.out], rfl⟩
        case measure => simp [intOf]; omega
      · have hxy' : ((x : Int) != (y : Int)) = true := by simp; omega
        go_wp2
        go_region
        all_goals go_wp2
        all_goals go_ret
        all_goals exact ⟨rfl, m + 1, rfl⟩
    · have e : k = l1.length := by omega
      exfalso
      have := hsame.out
      rw [e, List.take_length, List.take_of_length_le (by rw [HLL.out]; exact Nat.le_refl _)] at this
      exact HNE.out this
/-- An append whose run is known, also a guarded one. -/
theorem wpList_append_go {P : Program} (w : World) {ops : Array Oper} {rest : List Oper} {o : Oper} {a : Act} {Q : Exit → Act → World → Prop} (hw : Region.wanted o (yielded ops a.tmps) = true) (s x : Operand) (t tn : TypeId)
    (ho : o.op = .call { callee := .builtin .append, args := #[s, x], argTypes := #[t, tn] }) (vs vx : Value) (hs : a.eval s = vs) (hx : a.eval x = vx)
    (v' : Value) (w' : World) (hr : (Builtin.append_ #[t, tn] o.type #[vs, vx]).run P w = .ok v' w') (h : wpList P ops Q rest (a.put o.dst v') w') : wpList P ops Q (o :: rest) a w :=
  BigFrame.wpList_want hw fun K hK => Lib.wp_append_run w s x t tn ho vs vx hs hx v' w' hr (hK _ _ h)
theorem zeros_u8 (m : Nat) : (Builtin.zeroCells (Value.int .u8 0).cells m).toList = u8s (List.replicate m 0) := by
  apply List.ext_getElem?
  intro k
  by_cases hk : k < m
  · simp [Builtin.zeroCells, u8s, hk, Value.cells, Nat.mod_one]
  · rw [List.getElem?_eq_none (by simp [Builtin.zeroCells, Value.cells]; omega), List.getElem?_eq_none (by simp; omega)]
theorem made_zeros (n : Nat) : (madeCells (Value.int .u8 0).cells (n * 1)).toList = u8s (List.replicate n 0) := by
  apply List.ext_getElem?
  intro k
  by_cases hk : k < n
  · simp [madeCells, u8s, hk, Value.cells, Nat.mod_one]
  · rw [List.getElem?_eq_none (by simp [madeCells]; omega), List.getElem?_eq_none (by simp; omega)]
theorem u8s_append (l m : List Nat) : u8s (l ++ m) = u8s l ++ u8s m := by simp [u8s]
theorem own_cell {w : World} {base g n c : Nat} {l : List Nat} {j x : Nat} (h : w.ownsRow base 5 1 (.slice (some ⟨g, 0, none⟩) n c) n (u8s l)) (hx : l[j]? = some x) :
    w.cell? ⟨g, j, none⟩ = some (.int .u8 (x : Int)) ∧ w.frozen? ⟨g, j, none⟩ = false := by
  have hl : l.length = n := by have := h.1; simpa using this
  have hj : j < l.length := (List.getElem?_eq_some_iff.1 hx).1
  rcases h.2 with ⟨e1, _⟩ | ⟨g', cap', cur, hv, hgb, hh, hncap, _, hcs, htake⟩
  · cases e1
  · cases hv
    refine ⟨?_, by simp [World.frozen?, hh]⟩
    have e : (u8s l)[j]? = some (.int .u8 (x : Int)) := by rw [u8s_get, hx]; rfl
    rw [← htake, List.getElem?_take, if_pos (by omega)] at e
    simp only [World.cell?, hh]
    simpa using e
theorem own_set {w : World} {base g n c : Nat} {l : List Nat} (h : w.ownsRow base 5 1 (.slice (some ⟨g, 0, none⟩) n c) n (u8s l)) (j y : Nat) (hj : j < n) :
    (w.setCell ⟨g, j, none⟩ (.int .u8 (y : Int))).ownsRow base 5 1 (.slice (some ⟨g, 0, none⟩) n c) n (u8s (l.set j y)) := by
  rw [← u8s_set]; exact ownsRow_set h j hj _
theorem own_cap {w : World} {base g n c : Nat} {xs : List Value} (h : w.ownsRow base 5 1 (.slice (some ⟨g, 0, none⟩) n c) n xs) : n ≤ c ∧ c ≤ maxLen := by
  rcases h.2 with ⟨e1, _⟩ | ⟨g', cap', cur, hv, hgb, hh, hncap, hm, _⟩
  · cases e1
  · cases hv
    exact ⟨hncap, hm⟩
/-- A row that has just been made. -/
theorem own_new (w : World) (base : Nat) (Z : Array Value) (N : Nat) (l : List Nat) (hZ : Z.toList = u8s l) (hl : l.length = N) (hN : N ≤ 1000000) (hb : base ≤ w.heap.size) :
    (w.alloc (.cells Z 5)).ownsRow base 5 1 (.slice (some ⟨w.heap.size, 0, none⟩) N N) N (u8s l) := by
  have hs : Z.size = N := by have := congrArg List.length hZ; simpa [hl] using this
  refine ⟨by simp [hl], .inr ⟨w.heap.size, N, Z, rfl, hb, heap_alloc_new w _, Nat.le_refl _, by unfold maxLen; omega, by omega, ?_⟩⟩
  rw [hZ]; exact List.take_of_length_le (by simp [hl])
/-- A part of a row. -/
theorem own_part {w : World} {base g n c : Nat} {l : List Nat} (h : w.ownsRow base 5 1 (.slice (some ⟨g, 0, none⟩) n c) n (u8s l)) (i m c' : Nat) (him : i + m ≤ n) :
    SlAt w (.slice (some ⟨g, i, none⟩) m c') ((l.drop i).take m) := by
  have hl : l.length = n := by have := h.1; simpa using this
  refine ⟨some ⟨g, i, none⟩, c', by simp; omega, fun j x hx => ⟨g, i, rfl, ?_⟩⟩
  have hj : j < m := by have := (List.getElem?_eq_some_iff.1 hx).1; simp at this; omega
  rw [List.getElem?_take, if_pos hj, List.getElem?_drop] at hx
  exact (own_cell h hx).1
theorem sl_cell {w : World} {a : Option Addr} {n cap : Nat} {l : List Nat} {j x : Nat} (h : SlAt w (.slice a n cap) l) (hx : l[j]? = some x) :
    ∃ b off, a = some ⟨b, off, none⟩ ∧ w.cell? ⟨b, off + j, none⟩ = some (.int .u8 ((x : Nat) : Int)) := by
  obtain ⟨a1, c1, e, hc⟩ := h
  cases e
  exact hc j x hx
theorem SlAt.take {w : World} {a : Option Addr} {n cap : Nat} {l : List Nat} (h : SlAt w (.slice a n cap) l) (k : Nat) (hk : k ≤ n) (hl : l.length = n) : SlAt w (.slice a k cap) (l.take k) := by
  refine ⟨a, cap, by simp; omega, fun j x hx => ?_⟩
  rw [List.getElem?_take] at hx
  split at hx
  · exact sl_cell h hx
  · cases hx
theorem SlAt.none_of (w : World) (a : Option Addr) (c : Nat) {n : Nat} (hn : n = 0) : SlAt w (.slice a n c) [] := ⟨a, c, by rw [hn]; rfl, fun j x hx => by simp at hx⟩
theorem SlAt.addr {w : World} {a : Option Addr} {n cap : Nat} {l : List Nat} (h : SlAt w (.slice a n cap) l) (hne : l ≠ []) : ∃ b off, a = some ⟨b, off, none⟩ := by
  have hpos : 0 < l.length := List.length_pos_iff.2 hne
  obtain ⟨b, off, e, _⟩ := sl_cell h (show l[0]? = some l[0] by simp)
  exact ⟨b, off, e⟩
theorem SlAt.drop {w : World} {x : Addr} {n cap c : Nat} {l : List Nat} (h : SlAt w (.slice (some x) n cap) l) (k : Nat) (hk : k ≤ n) (hl : l.length = n) : SlAt w (.slice (some (x.add k)) (n - k) c) (l.drop k) := by
  refine ⟨some (x.add k), c, by simp [hl], fun j y hy => ?_⟩
  rw [List.getElem?_drop] at hy
  obtain ⟨b, off, e, hc⟩ := sl_cell h hy
  cases e
  exact ⟨b, off + k, by simp [Addr.add], by rw [Nat.add_assoc]; exact hc⟩

end Go.Proofs.Ytdcnbakmmkbodaa

/- Numbers in a row that can be read; rows of numbers of the call's own; Copy and Cut of numbers. -/
namespace Go.Proofs.Ytdcnbakmmkbodaa
set_option linter.unusedVariables false
set_option linter.unusedSimpArgs false
open Go.RowKit Dg

/-- Numbers that can be read. -/
def IntsAt (w : World) (a : Option Addr) (l : List Int) : Prop :=
  ∀ j x, l[j]? = some x → ∃ b off, a = some ⟨b, off, none⟩ ∧ w.cell? ⟨b, off + j, none⟩ = some (.int .i64 x)
theorem IntsAt.below {w w' : World} {a : Option Addr} {l : List Int} {B : Nat} (h : IntsAt w a l) (hb : Below B w w') (hB : ∀ x, a = some x → x.block < B) : IntsAt w' a l := by
  intro j x hx
  obtain ⟨b, off, rfl, hc⟩ := h j x hx
  refine ⟨b, off, rfl, ?_⟩
  rw [hb.cell (p := ⟨b, off + j, none⟩) (hB ⟨b, off, none⟩ rfl)]
  exact hc
theorem IntsAt.kept {w w' : World} {a : Option Addr} {l : List Int} {F : Nat → Prop} (h : IntsAt w a l) (hk : Kept F w w') (hF : ∀ x, a = some x → ¬ F x.block) : IntsAt w' a l := by
  intro j x hx
  obtain ⟨b, off, rfl, hc⟩ := h j x hx
  refine ⟨b, off, rfl, ?_⟩
  rw [hk.cell (World.block_lt_of_cell? w _ hc) (hF ⟨b, off, none⟩ rfl)]
  exact hc
theorem IntsAt.take {w : World} {a : Option Addr} {l : List Int} (h : IntsAt w a l) (n : Nat) : IntsAt w a (l.take n) := by
  intro j x hx
  refine h j x ?_
  rw [List.getElem?_take] at hx
  split at hx
  · exact hx
  · cases hx
theorem IntsAt.nil (w : World) (a : Option Addr) : IntsAt w a [] := fun j x hx => by simp at hx
/-- Numbers as values. -/
def i64s (l : List Int) : List Value := l.map fun x : Int => Value.int .i64 x
@[simp] theorem length_i64s (l : List Int) : (i64s l).length = l.length := by simp [i64s]
theorem i64s_get (l : List Int) (k : Nat) : (i64s l)[k]? = l[k]?.map fun x : Int => Value.int .i64 x := by simp [i64s]
theorem IntsAt.of_owns {w : World} {base : Nat} {a : Option Addr} {n m cap : Nat} {l : List Int} (h : w.ownsRow base 3 1 (.slice a m cap) n (i64s l)) : IntsAt w a l := by
  have hl : l.length = n := by have := h.1; simpa using this
  rcases h.2 with ⟨e, rfl⟩ | ⟨g, cap, cur, e, hb, hh, hn, _, hcs, htake⟩
  · have : l = [] := List.eq_nil_of_length_eq_zero hl
    subst this
    exact IntsAt.nil w a
  · cases e
    intro j x hx
    refine ⟨g, 0, rfl, ?_⟩
    have hj : j < l.length := (List.getElem?_eq_some_iff.1 hx).1
    have e : (i64s l)[j]? = some (.int .i64 x) := by rw [i64s_get, hx]; rfl
    rw [← htake, List.getElem?_take, if_pos (by omega)] at e
    simp only [World.cell?, hh]
    simpa using e
/-- The numbers of a slice that came in. -/
theorem IsRow.ints {w : World} {a : Option Addr} {len cap : Nat} {zs : List Int} (h : IsRow .i64 w a len cap zs) :
    ∃ l : List Int, l.length = len ∧ (∀ x ∈ l, I64 x) ∧ IntsAt w a l ∧ len ≤ cap ∧ cap ≤ maxLen ∧ (a = none → len = 0 ∧ cap = 0) ∧ ∀ x, a = some x → 0 < len → x.block < w.heap.size := by
  rcases h with ⟨rfl, rfl, rfl, rfl⟩ | ⟨x, rfl, hle, hm, hz, hc, hwf⟩
  · exact ⟨[], rfl, fun x hx => by simp at hx, IntsAt.nil w _, Nat.le_refl _, by decide, fun _ => ⟨rfl, rfl⟩, fun x hx => by cases hx⟩
  · have hsp : 0 < zs.length → x.spot = none := fun h0 => by
      have := spot_of_cell (hc 0 h0)
      simpa [Addr.add] using this
    refine ⟨zs.take len, by simp; omega, fun y hy => wf_i64 (hwf y (List.mem_of_mem_take hy)), ?_, hle, hm, (fun e => by cases e), ?_⟩
    · intro j y hy
      have hj : j < (zs.take len).length := (List.getElem?_eq_some_iff.1 hy).1
      simp at hj
      have hj2 : j < zs.length := by omega
      obtain ⟨b, off, s⟩ := x
      have hs := hsp (by omega)
      simp at hs
      subst hs
      refine ⟨b, off, rfl, ?_⟩
      have hcell := hc j hj2
      have hadd : (⟨b, off, none⟩ : Addr).add j = ⟨b, off + j, none⟩ := by simp [Addr.add]
      rw [hadd] at hcell
      rw [hcell]
      rw [List.getElem?_take, if_pos (by omega)] at hy
      simp [List.getD, hy]
    · intro y hy h0
      cases hy
      have hcell := hc 0 (by omega)
      exact World.block_lt_of_cell? w _ hcell
theorem Try.info3 : (Try.prog.info? 3).map (fun i => (i.zero, i.size, i.bytes)) = some (some (.int .i64 0), 1, 8) := by kernel_rfl
/-- A row of numbers of the call's own. -/
def OwnInts (w : World) (base : Nat) (v : Value) (l : List Int) : Prop := w.ownsRow base 3 1 v l.length (i64s l)
theorem OwnInts.nil (w : World) (base : Nat) : OwnInts w base (.slice none 0 0) [] := World.ownsRow_nil _ _ _ _
theorem OwnInts.slice {w : World} {base : Nat} {v : Value} {l : List Int} (h : OwnInts w base v l) : ∃ a cap, v = .slice a l.length cap ∧ IntsAt w a l ∧ (a = none ∧ l = [] ∧ cap = 0 ∨ ∃ g, a = some ⟨g, 0, none⟩ ∧ base ≤ g ∧ g < w.heap.size) := by
  have h' := h
  rcases h.2 with ⟨rfl, hn⟩ | ⟨g, cap, cur, rfl, hb, hh, hn, _, hcs, htake⟩
  · have : l = [] := List.eq_nil_of_length_eq_zero hn
    subst this
    exact ⟨none, 0, rfl, IntsAt.nil w _, .inl ⟨rfl, rfl, rfl⟩⟩
  · exact ⟨some ⟨g, 0, none⟩, cap, rfl, IntsAt.of_owns h, .inr ⟨g, rfl, hb, (Array.getElem?_eq_some_iff.1 hh).1⟩⟩
theorem OwnInts.below {w w' : World} {base B : Nat} {v : Value} {l : List Int} (h : OwnInts w base v l) (hb : Below B w w') (hB : ∀ k, v.ownBlock = some k → k < B) : OwnInts w' base v l := by
  refine ⟨h.1, ?_⟩
  rcases h.2 with hn | ⟨g, cap, cur, rfl, hg, hh, r⟩
  · exact .inl hn
  · exact .inr ⟨g, cap, cur, rfl, hg, by rw [hb.block g (hB g rfl)]; exact hh, r⟩
/-- 'append(z, n)' of one number that was just built. -/
theorem wpList_append_int {P : Program} (w0 : World) {ops : Array Oper} {rest : List Oper} {o : Oper} {a : Act} {Q : Exit → Act → World → Prop}
    (hgd : o.guard = none) (s x : Operand) (t : TypeId) (ho : o.op = .call { callee := .builtin .append, args := #[s, x], argTypes := #[t, t] })
    (base : Nat) (i : TypeInfo) (ht : P.underlying t = some (.slice 3)) (hi : P.info? 3 = some i) (hz : i.zero = some (.int .i64 0)) (hsize : i.size = 1) (hby : i.bytes = 8)
    (v : Value) (l : List Int) (hs : a.eval s = v) (hown : OwnInts w0 base v l) (y : Int) (hx : a.eval x = .slice (some ⟨w0.heap.size, 0, none⟩) 1 1)
    (hl : l.length ≤ 1000000) (hbase : base ≤ w0.heap.size)
    (h : ∀ v' w', Hid (OwnInts w' base v' (l ++ [y])) → Hid (Below base w0 w') → wpList P ops Q rest (a.put o.dst v') w') : wpList P ops Q (o :: rest) a (w0.alloc (.cells #[.int .i64 y] 3)) := by
  refine wpList_append_mine _ hgd s x t ho base 3 i (.int .i64 0) 1 8 ht hi hz hsize hby rfl (by decide) v l.length (i64s l) hs (World.ownsRow.alloc hown _) ⟨w0.heap.size, 0, none⟩ 1 1 [.int .i64 y] hx rfl ?c1 ?c2 (by decide) ?b1 ?b2 ?b3 ?_
  case c1 => intro j u hj; match j, hj with | 0, hj => simp at hj; subst hj; simp [Addr.add]
  case c2 => intro u hu; simp at hu; subst hu; rfl
  case b1 => unfold maxLen; omega
  case b2 => omega
  case b3 => simp; omega
  intro g cap w' H1 HG HN
  refine h _ w' ?_ ?_
  · show World.ownsRow _ _ _ _ _ _ _
    have := H1.out
    simpa [i64s] using this
  · exact ((Below.refl base w0).alloc hbase _).grown HG.out (by simp; omega) (fun k hk => (World.ownsRow.lt hown k hk).1)
end Go.Proofs.Ytdcnbakmmkbodaa
