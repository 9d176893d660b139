/- The texts Walk8, Walk9, Row, Post, Acts, Ints, IntsB, FixMath, Fix1, Fix2, Fix3, one behind the other. -/
import Derived.Test.YtejgkgnocgplbaaPart01
import Derived.ProofKit
import Derived.OpenShut
import Derived.Deep.Slices
import Derived.Laws.AppendOwnNone
import Derived.Deep.RegionLaw

/- The contracts once more, over numbers as a walk spells them. -/
namespace Go.Proofs.Ytejgkgnocgplbaa
set_option linter.unusedVariables false
set_option linter.unusedSimpArgs false
open Go.RowKit Dg

theorem within_nat (v : Int) (n : Nat) (w : World) (hv1 : -9223372036854775808 ≤ v) (hv2 : v ≤ 9223372036854775807) (hn1 : 1 ≤ n) (hn2 : n ≤ 4611686018427387904) (I : Int) (hI : I = (n : Int)) :
    Calls Try.prog 15 #[.int .i64 v, .int .i64 I] w fun e w' => ∃ k : Nat, e = .returned (.int .i64 (k : Int)) ∧ k < n ∧ (k : Int) = v % n ∧ w = w' := by
  subst hI
  refine (within_any v n w hv1 hv2 (by omega) (by omega)).mono ?_
  rintro e w' ⟨rfl, rfl⟩
  refine ⟨(v % n).toNat, ?_, ?_, ?_, rfl⟩
  · have : 0 ≤ v % (n : Int) := Int.emod_nonneg _ (by omega)
    exact ret_int (by omega)
  · have : v % (n : Int) < n := Int.emod_lt_of_pos _ (by omega)
    omega
  · have : 0 ≤ v % (n : Int) := Int.emod_nonneg _ (by omega)
    omega

theorem put_at (w : World) (b : Nat) (rv : Value) (ds : List Bool) (v : Int) (n : Nat) (h : WrAt w b rv ds) (hlt : ds.length < 4398046511000) (hn : n ≤ 62) (I : Int) (hI : I = (n : Int)) :
    Calls Try.prog 35 #[.pointer (some ⟨b, 0, none⟩), .int .i64 v, .int .i64 I] w fun e w' => e = .returned (.bool true) ∧ Wrote w w' b rv (ds ++ dig v n) := by
  subst hI; exact put_any w b rv ds v n h hlt hn

theorem wrap64_pow (k : Nat) (hk : k ≤ 62) : wrap64 (2 ^ k) = ((2 ^ k : Nat) : Int) := by
  have h1 : 2 ^ k ≤ 2 ^ 62 := Nat.pow_le_pow_right (by decide) hk
  have h2 : (2 : Nat) ^ 62 = 4611686018427387904 := by decide
  rw [← pow_cast k]
  generalize 2 ^ k = P at h1 ⊢
  unfold wrap64
  omega

theorem Wf_nil {b k : Nat} (h : Wf b (.slice none 0 0) k) : k = b := by
  rcases h with h | h
  · exact h
  · simp [Value.ownBlock] at h

/-- What is read of digits that were written. -/
theorem taken (ds es fs : List Bool) (h : ds = es ++ fs) (k n : Nat) (hk : k = es.length) (hn : n ≤ fs.length) : ((unpack (pack ds)).drop k).take n = fs.take n := by
  rw [unpack_pack, h, hk, List.append_assoc, List.drop_left, List.take_append_of_le_length hn]

theorem and_mask (v m : Nat) (hv : v < 4611686018427387904) (hm : m ≤ 31) : bits BinOp.and IntKind.i64 (v : Int) (2 ^ m - 1) = ((v % 2 ^ m : Nat) : Int) := by
  have hp : 2 ^ m ≤ 2 ^ 31 := Nat.pow_le_pow_right (by decide) hm
  have hp2 : (2 : Nat) ^ 31 = 2147483648 := by decide
  have hp0 : 0 < 2 ^ m := Nat.pow_pos (by decide)
  have e : ((2 : Int) ^ m - 1) = ((2 ^ m - 1 : Nat) : Int) := by rw [← pow_cast]; omega
  rw [e]
  show IntKind.i64.wrap ((BitVec.ofInt 64 ((v : Nat) : Int) &&& BitVec.ofInt 64 ((2 ^ m - 1 : Nat) : Int)).toNat : Int) = _
  rw [BitVec.toNat_and, ofInt_u64 v (by omega), ofInt_u64 (2 ^ m - 1) (by omega), Nat.and_two_pow_sub_one_eq_mod]
  have hlt : v % 2 ^ m < 2 ^ m := Nat.mod_lt _ hp0
  have hw : ∀ n : Nat, n < 9223372036854775808 → IntKind.i64.wrap ((n : Nat) : Int) = (n : Int) := by
    intro n hn
    simp [IntKind.wrap, IntKind.bits, IntKind.signed]
    omega
  exact hw _ (by omega)

theorem and_mask' (v m : Nat) (hv : v < 4611686018427387904) (hm : m ≤ 31) : bits BinOp.and IntKind.i64 (v : Int) (wrap64 (wrap64 (2 ^ m) - 1)) = (v : Int) % 2 ^ m := by
  have hp : 2 ^ m ≤ 2 ^ 31 := Nat.pow_le_pow_right (by decide) hm
  have hp2 : (2 : Nat) ^ 31 = 2147483648 := by decide
  have e : wrap64 (wrap64 (2 ^ m) - 1) = (2 : Int) ^ m - 1 := by
    rw [wrap64_pow m (by omega), ← pow_cast]
    generalize 2 ^ m = P at hp ⊢
    unfold wrap64
    omega
  rw [e, and_mask v m hv hm]
  push_cast; rfl

theorem WrAt.below {w w' : World} {b : Nat} {rv : Value} {ds : List Bool} (h : WrAt w b rv ds) (hb : Below w.heap.size w w') : WrAt w' b rv ds :=
  h.other (F := fun _ => False) (Kept.of_below hb) (fun _ _ h => h)
theorem SlAt.below {w w' : World} {v : Value} {l : List Nat} (h : SlAt w v l) (hb : Below w.heap.size w w') : SlAt w' v l :=
  h.kept (F := fun _ => False) (Kept.of_below hb) (fun _ _ h => h)
end Go.Proofs.Ytejgkgnocgplbaa

/- The reader: Ones and Rest. -/
namespace Go.Proofs.Ytejgkgnocgplbaa
set_option linter.unusedVariables false
set_option linter.unusedSimpArgs false
open Go.RowKit Dg

end Go.Proofs.Ytejgkgnocgplbaa

/- A slice of bytes that came in, as the walks want it; Cut. -/
namespace Go.Proofs.Ytejgkgnocgplbaa
set_option linter.unusedVariables false
set_option linter.unusedSimpArgs false
open Go.RowKit Dg

/-- A slice of integers that came in: it is nil; or it leads to a row of 'cap' cells, the numbers 'zs' (the first 'len' are its elements, the rest its spare room), each fitting its kind. -/
def IsRow (k : IntKind) (w : World) (a : Option Addr) (len cap : Nat) (zs : List Int) : Prop :=
  (a = none ∧ len = 0 ∧ cap = 0 ∧ zs = []) ∨
  ∃ x, a = some x ∧ len ≤ cap ∧ cap ≤ maxLen ∧ zs.length = cap ∧ (∀ i, i < zs.length → w.cell? (x.add i) = some (.int k (zs.getD i 0))) ∧ ∀ n ∈ zs, (Lit.int k n).wf = true

theorem spot_of_cell {w : World} {a : Addr} {v : Value} (h : w.cell? a = some v) : a.spot = none := by
  unfold World.cell? at h
  split at h
  · split at h
    · cases h
    · rename_i hs; simpa using hs
  · cases h

theorem wf_u8 {x : Int} (h : (Lit.int .u8 x).wf = true) : 0 ≤ x ∧ x < 256 := by
  simp [Lit.wf, IntKind.min, IntKind.max, IntKind.signed, IntKind.bits] at h
  omega

/-- Its bytes. -/
theorem IsRow.bytes {w : World} {a : Option Addr} {len cap : Nat} {zs : List Int} (h : IsRow .u8 w a len cap zs) :
    ∃ l : List Nat, l.length = len ∧ (∀ x ∈ l, x < 256) ∧ ∀ n, n ≤ len → SlAt w (.slice a n cap) (l.take n) := by
  rcases h with ⟨rfl, rfl, rfl, rfl⟩ | ⟨x, rfl, hle, hm, hz, hc, hwf⟩
  · exact ⟨[], rfl, fun x hx => by simp at hx, fun n hn => by have : n = 0 := by omega
                                                              subst this; exact SlAt.nil w⟩
  · refine ⟨(zs.take len).map Int.toNat, by simp; omega, ?_, ?_⟩
    · intro y hy
      simp only [List.mem_map] at hy
      obtain ⟨z, hz1, rfl⟩ := hy
      have := wf_u8 (hwf z (List.mem_of_mem_take hz1))
      omega
    · intro n hn
      refine ⟨some x, cap, by simp; omega, fun j y hy => ?_⟩
      have hj : j < n := by have := (List.getElem?_eq_some_iff.1 hy).1; simp at this; omega
      have hj2 : j < zs.length := by omega
      have hcell := hc j hj2
      have hsp := spot_of_cell (hc 0 (by omega))
      have hx : x = ⟨x.block, x.off, none⟩ := by
        obtain ⟨b, o, s⟩ := x
        cases s with
        | none => rfl
        | some s => simp [Addr.add] at hsp
      refine ⟨x.block, x.off, by rw [← hx], ?_⟩
      rw [hx] at hcell
      have hadd : (⟨x.block, x.off, none⟩ : Addr).add j = ⟨x.block, x.off + j, none⟩ := by simp [Addr.add]
      rw [hadd] at hcell
      have hyv : y = (zs.getD j 0).toNat := by
        simp [List.getElem?_take, hj, hj2, show j < len by omega] at hy
        simp [List.getD, hj2, hy]
      have hw := wf_u8 (hwf (zs.getD j 0) (by simp [List.getD, hj2]))
      rw [hyv, hcell]
      congr 2
      omega

set_option maxHeartbeats 400000 in
theorem cut_any (w : World) (a : Option Addr) (len cap n : Nat) (hn : n ≤ 4096) (hle : len ≤ cap) (hm : cap ≤ maxLen) (h0 : a = none → len = 0 ∧ cap = 0) :
    Calls Try.prog 12 #[.slice a len cap, .int .i64 n] w fun e w' => e = .returned (.slice a (min len n) cap) ∧ w = w' := by
  unfold maxLen at hm
  go_enter Try.func12, Try.ntmps12
  go_wp2
  · go_ret
    exact ⟨by rw [Nat.min_eq_right (by omega)]; rfl, rfl⟩
  · go_ret
    exact ⟨by rw [Nat.min_eq_left (by omega)]; rfl, rfl⟩

end Go.Proofs.Ytejgkgnocgplbaa

/- The end of a law's row: nothing that was there has turned. -/
namespace Go.Proofs.Ytejgkgnocgplbaa
set_option linter.unusedVariables false
set_option linter.unusedSimpArgs false
open Go.ChangeShapes Go.WideShapes Go.ChangeAt Go.RowKit

theorem Try.own : ownKnob Try.prog.godebug = none := by kernel_rfl
theorem Try.laidOut : laidOutB Try.prog = true := by kernel_rfl

theorem post_below {H : Type} {enc : TypeId × Value → H} {P : Program} {f : Func} {s : ChangeSpec} {W W' : World} {args : Array Value} {v : Value} {ds gs : List (DataW H)} {before pa pv : List MemPlace}
    (hW : DataW.Whole enc P f.params.toList s.vars false W args.toList ds gs before)
    (hres : ∀ (b : Nat) (sp : Nat → Bool) (hd : Bool), DataW.TrodAll enc P W' b sp hd f.resultTypes.toList (v.resultList f.resultTypes.size) (s.fn H (ds ++ gs)).results [])
    (hargs : DataW.TrodAll enc P W' 0 (fun b => decide (b < W.heap.size)) true f.params.toList args.toList (s.fn H (ds ++ gs)).args pa)
    (hvars : DataW.TrodVars enc P W' (fun b => decide (b < W.heap.size)) s.vars (s.fn H (ds ++ gs)).vars pv)
    (hk : Below W.heap.size W W') :
    s.post enc P f false true false false W args v W' :=
  ⟨ds, gs, before, [], pa, pv, hW, hres _ _ _, hargs, hvars, hk.frame _, fun h => by cases h⟩

theorem wf_i64 {x : Int} (h : (Lit.int .i64 x).wf = true) : -9223372036854775808 ≤ x ∧ x ≤ 9223372036854775807 := by
  simp [Lit.wf, IntKind.min, IntKind.max, IntKind.signed, IntKind.bits] at h
  omega

end Go.Proofs.Ytejgkgnocgplbaa

/- A slice of calls that came in, as the walks want it. -/
namespace Go.Proofs.Ytejgkgnocgplbaa
set_option linter.unusedVariables false
set_option linter.unusedSimpArgs false
open Go.ChangeShapes Go.WideShapes Go.ChangeAt Go.RowKit Go.Deep

theorem Try.cells3 : Try.prog.cellsOf 3 = 1 := by kernel_rfl

/-- An int. -/
def I64 (x : Int) : Prop := -9223372036854775808 ≤ x ∧ x ≤ 9223372036854775807

/-- Calls that can be read: what is in the three fields of each. -/
def ActsAt (w : World) (a : Option Addr) (len : Nat) (f : Nat → Int × Int × Int) : Prop :=
  ∀ i, i < len → ∃ b off, a = some ⟨b, off, none⟩ ∧ b < w.heap.size ∧ w.cell? ⟨b, off + i * 3, none⟩ = some (.int .i64 (f i).1) ∧ w.cell? ⟨b, off + i * 3 + 1, none⟩ = some (.int .i64 (f i).2.1) ∧ w.cell? ⟨b, off + i * 3 + 2, none⟩ = some (.int .i64 (f i).2.2) ∧
    I64 (f i).1 ∧ I64 (f i).2.1 ∧ I64 (f i).2.2

theorem ActsAt.below {w w' : World} {a : Option Addr} {len : Nat} {f : Nat → Int × Int × Int} (h : ActsAt w a len f) (hb : Below w.heap.size w w') : ActsAt w' a len f := by
  intro i hi
  obtain ⟨b, off, e, hl, h0, h1, h2, r⟩ := h i hi
  exact ⟨b, off, e, Nat.lt_of_lt_of_le hl hb.size, by rw [hb.cell (p := ⟨b, _, none⟩) hl]; exact h0, by rw [hb.cell (p := ⟨b, _, none⟩) hl]; exact h1, by rw [hb.cell (p := ⟨b, _, none⟩) hl]; exact h2, r⟩

theorem cells3_of {w : World} {base : Nat} {a : Addr} {cs : List Value} (h : w.cells? base a 3 = some cs) : ∃ x y z, cs = [x, y, z] ∧ w.cell? a = some x ∧ w.cell? (a.add 1) = some y ∧ w.cell? (a.add 2) = some z := by
  unfold World.cells? at h
  split at h
  · have e : List.range 3 = [0, 1, 2] := by decide
    rw [e] at h
    simp only [List.mapM_cons, List.mapM_nil, Option.bind_eq_bind, Option.pure_def] at h
    have e0 : a.add 0 = a := by simp [Addr.add]
    rw [e0] at h
    cases h0 : w.cell? a with
    | none => simp [h0] at h
    | some x =>
      cases h1 : w.cell? (a.add 1) with
      | none => simp [h0, h1] at h
      | some y =>
        cases h2 : w.cell? (a.add 2) with
        | none => simp [h0, h1, h2] at h
        | some z =>
          simp [h0, h1, h2] at h
          exact ⟨x, y, z, h.symm, rfl, rfl, rfl⟩
  · cases h

theorem open_bytes {H : Type} {enc : TypeId × Value → H} {W : World} {a : Option Addr} {len cap : Nat} {d : DataW H} {p : List MemPlace}
    (h : DataW.Trod enc Try.prog W 0 (fun _ => true) true 32 (.slice a len cap) d p) : ∃ zs, IsRow .u8 W a len cap zs := by
  obtain ⟨fuel, hf⟩ := h
  rcases open_ints Try.underlying32 Try.underlying5 (by kernel_rfl) hf with ⟨hcs, _⟩ | ⟨x, l, c, zs, hcs, _, hl, hm, hz, _, hcell, hwz⟩
  · simp [Value.cells] at hcs
    obtain ⟨rfl, rfl, rfl⟩ := hcs
    exact ⟨[], .inl ⟨rfl, rfl, rfl, rfl⟩⟩
  · simp [Value.cells] at hcs
    obtain ⟨rfl, rfl, rfl⟩ := hcs
    exact ⟨zs, .inr ⟨_, rfl, hl, hm, by simpa using hz, hcell, hwz⟩⟩

end Go.Proofs.Ytejgkgnocgplbaa

/- Numbers in a row that can be read; rows of numbers of the call's own; Copy and Cut of numbers. -/
namespace Go.Proofs.Ytejgkgnocgplbaa
set_option linter.unusedVariables false
set_option linter.unusedSimpArgs false
open Go.RowKit Dg

/-- Numbers that can be read. -/
def IntsAt (w : World) (a : Option Addr) (l : List Int) : Prop :=
  ∀ j x, l[j]? = some x → ∃ b off, a = some ⟨b, off, none⟩ ∧ w.cell? ⟨b, off + j, none⟩ = some (.int .i64 x)
theorem IntsAt.below {w w' : World} {a : Option Addr} {l : List Int} {B : Nat} (h : IntsAt w a l) (hb : Below B w w') (hB : ∀ x, a = some x → x.block < B) : IntsAt w' a l := by
  intro j x hx
  obtain ⟨b, off, rfl, hc⟩ := h j x hx
  refine ⟨b, off, rfl, ?_⟩
  rw [hb.cell (p := ⟨b, off + j, none⟩) (hB ⟨b, off, none⟩ rfl)]
  exact hc
theorem IntsAt.kept {w w' : World} {a : Option Addr} {l : List Int} {F : Nat → Prop} (h : IntsAt w a l) (hk : Kept F w w') (hF : ∀ x, a = some x → ¬ F x.block) : IntsAt w' a l := by
  intro j x hx
  obtain ⟨b, off, rfl, hc⟩ := h j x hx
  refine ⟨b, off, rfl, ?_⟩
  rw [hk.cell (World.block_lt_of_cell? w _ hc) (hF ⟨b, off, none⟩ rfl)]
  exact hc
theorem IntsAt.take {w : World} {a : Option Addr} {l : List Int} (h : IntsAt w a l) (n : Nat) : IntsAt w a (l.take n) := by
  intro j x hx
  refine h j x ?_
  rw [List.getElem?_take] at hx
  split at hx
  · exact hx
  · cases hx
theorem IntsAt.nil (w : World) (a : Option Addr) : IntsAt w a [] := fun j x hx => by simp at hx
/-- Numbers as values. -/
def i64s (l : List Int) : List Value := l.map fun x : Int => Value.int .i64 x
@[simp] theorem length_i64s (l : List Int) : (i64s l).length = l.length := by simp [i64s]
theorem i64s_get (l : List Int) (k : Nat) : (i64s l)[k]? = l[k]?.map fun x : Int => Value.int .i64 x := by simp [i64s]
theorem IntsAt.of_owns {w : World} {base : Nat} {a : Option Addr} {n m cap : Nat} {l : List Int} (h : w.ownsRow base 3 1 (.slice a m cap) n (i64s l)) : IntsAt w a l := by
  have hl : l.length = n := by have := h.1; simpa using this
  rcases h.2 with ⟨e, rfl⟩ | ⟨g, cap, cur, e, hb, hh, hn, _, hcs, htake⟩
  · have : l = [] := List.eq_nil_of_length_eq_zero hl
    subst this
    exact IntsAt.nil w a
  · cases e
    intro j x hx
    refine ⟨g, 0, rfl, ?_⟩
    have hj : j < l.length := (List.getElem?_eq_some_iff.1 hx).1
    have e : (i64s l)[j]? = some (.int .i64 x) := by rw [i64s_get, hx]; rfl
    rw [← htake, List.getElem?_take, if_pos (by omega)] at e
    simp only [World.cell?, hh]
    simpa using e
/-- The numbers of a slice that came in. -/
theorem IsRow.ints {w : World} {a : Option Addr} {len cap : Nat} {zs : List Int} (h : IsRow .i64 w a len cap zs) :
    ∃ l : List Int, l.length = len ∧ (∀ x ∈ l, I64 x) ∧ IntsAt w a l ∧ len ≤ cap ∧ cap ≤ maxLen ∧ (a = none → len = 0 ∧ cap = 0) ∧ ∀ x, a = some x → 0 < len → x.block < w.heap.size := by
  rcases h with ⟨rfl, rfl, rfl, rfl⟩ | ⟨x, rfl, hle, hm, hz, hc, hwf⟩
  · exact ⟨[], rfl, fun x hx => by simp at hx, IntsAt.nil w _, Nat.le_refl _, by decide, fun _ => ⟨rfl, rfl⟩, fun x hx => by cases hx⟩
  · have hsp : 0 < zs.length → x.spot = none := fun h0 => by
      have := spot_of_cell (hc 0 h0)
      simpa [Addr.add] using this
    refine ⟨zs.take len, by simp; omega, fun y hy => wf_i64 (hwf y (List.mem_of_mem_take hy)), ?_, hle, hm, (fun e => by cases e), ?_⟩
    · intro j y hy
      have hj : j < (zs.take len).length := (List.getElem?_eq_some_iff.1 hy).1
      simp at hj
      have hj2 : j < zs.length := by omega
      obtain ⟨b, off, s⟩ := x
      have hs := hsp (by omega)
      simp at hs
      subst hs
      refine ⟨b, off, rfl, ?_⟩
      have hcell := hc j hj2
      have hadd : (⟨b, off, none⟩ : Addr).add j = ⟨b, off + j, none⟩ := by simp [Addr.add]
      rw [hadd] at hcell
      rw [hcell]
      rw [List.getElem?_take, if_pos (by omega)] at hy
      simp [List.getD, hy]
    · intro y hy h0
      cases hy
      have hcell := hc 0 (by omega)
      exact World.block_lt_of_cell? w _ hcell
theorem Try.info3 : (Try.prog.info? 3).map (fun i => (i.zero, i.size, i.bytes)) = some (some (.int .i64 0), 1, 8) := by kernel_rfl
/-- A row of numbers of the call's own. -/
def OwnInts (w : World) (base : Nat) (v : Value) (l : List Int) : Prop := w.ownsRow base 3 1 v l.length (i64s l)
theorem OwnInts.nil (w : World) (base : Nat) : OwnInts w base (.slice none 0 0) [] := World.ownsRow_nil _ _ _ _
theorem OwnInts.slice {w : World} {base : Nat} {v : Value} {l : List Int} (h : OwnInts w base v l) : ∃ a cap, v = .slice a l.length cap ∧ IntsAt w a l ∧ (a = none ∧ l = [] ∧ cap = 0 ∨ ∃ g, a = some ⟨g, 0, none⟩ ∧ base ≤ g ∧ g < w.heap.size) := by
  have h' := h
  rcases h.2 with ⟨rfl, hn⟩ | ⟨g, cap, cur, rfl, hb, hh, hn, _, hcs, htake⟩
  · have : l = [] := List.eq_nil_of_length_eq_zero hn
    subst this
    exact ⟨none, 0, rfl, IntsAt.nil w _, .inl ⟨rfl, rfl, rfl⟩⟩
  · exact ⟨some ⟨g, 0, none⟩, cap, rfl, IntsAt.of_owns h, .inr ⟨g, rfl, hb, (Array.getElem?_eq_some_iff.1 hh).1⟩⟩
theorem OwnInts.below {w w' : World} {base B : Nat} {v : Value} {l : List Int} (h : OwnInts w base v l) (hb : Below B w w') (hB : ∀ k, v.ownBlock = some k → k < B) : OwnInts w' base v l := by
  refine ⟨h.1, ?_⟩
  rcases h.2 with hn | ⟨g, cap, cur, rfl, hg, hh, r⟩
  · exact .inl hn
  · exact .inr ⟨g, cap, cur, rfl, hg, by rw [hb.block g (hB g rfl)]; exact hh, r⟩
/-- 'append(z, n)' of one number that was just built. -/
theorem wpList_append_int {P : Program} (w0 : World) {ops : Array Oper} {rest : List Oper} {o : Oper} {a : Act} {Q : Exit → Act → World → Prop}
    (hgd : o.guard = none) (s x : Operand) (t : TypeId) (ho : o.op = .call { callee := .builtin .append, args := #[s, x], argTypes := #[t, t] })
    (base : Nat) (i : TypeInfo) (ht : P.underlying t = some (.slice 3)) (hi : P.info? 3 = some i) (hz : i.zero = some (.int .i64 0)) (hsize : i.size = 1) (hby : i.bytes = 8)
    (v : Value) (l : List Int) (hs : a.eval s = v) (hown : OwnInts w0 base v l) (y : Int) (hx : a.eval x = .slice (some ⟨w0.heap.size, 0, none⟩) 1 1)
    (hl : l.length ≤ 1000000) (hbase : base ≤ w0.heap.size)
    (h : ∀ v' w', Hid (OwnInts w' base v' (l ++ [y])) → Hid (Below base w0 w') → wpList P ops Q rest (a.put o.dst v') w') : wpList P ops Q (o :: rest) a (w0.alloc (.cells #[.int .i64 y] 3)) := by
  refine wpList_append_mine _ hgd s x t ho base 3 i (.int .i64 0) 1 8 ht hi hz hsize hby rfl (by decide) v l.length (i64s l) hs (World.ownsRow.alloc hown _) ⟨w0.heap.size, 0, none⟩ 1 1 [.int .i64 y] hx rfl ?c1 ?c2 (by decide) ?b1 ?b2 ?b3 ?_
  case c1 => intro j u hj; match j, hj with | 0, hj => simp at hj; subst hj; simp [Addr.add]
  case c2 => intro u hu; simp at hu; subst hu; rfl
  case b1 => unfold maxLen; omega
  case b2 => omega
  case b3 => simp; omega
  intro g cap w' H1 HG HN
  refine h _ w' ?_ ?_
  · show World.ownsRow _ _ _ _ _ _ _
    have := H1.out
    simpa [i64s] using this
  · exact ((Below.refl base w0).alloc hbase _).grown HG.out (by simp; omega) (fun k hk => (World.ownsRow.lt hown k hk).1)
end Go.Proofs.Ytejgkgnocgplbaa

/- Numbers once more: Same at like numbers; appends to a row of numbers of the call's own, told more closely; parts of such rows. -/
namespace Go.Proofs.Ytejgkgnocgplbaa
set_option linter.unusedVariables false
set_option linter.unusedSimpArgs false
open Go.RowKit Dg

theorem hid_of {p : Prop} (h : p) : Hid p := h
theorem take_next (zs : List Int) (j : Nat) (y : Int) (h : zs[j]? = some y) : zs.take (j + 1) = zs.take j ++ [y] := by rw [List.take_add_one, h]; rfl
theorem OwnInts.at {w : World} {base n cap : Nat} {a : Option Addr} {l : List Int} (h : OwnInts w base (.slice a n cap) l) : IntsAt w a l := IntsAt.of_owns h
theorem own_lt {w : World} {base n cap : Nat} {a : Option Addr} {l : List Int} (h : OwnInts w base (.slice a n cap) l) : ∀ x, a = some x → x.block < w.heap.size := by
  intro x hx
  subst hx
  exact (World.ownsRow.lt h x.block rfl).2

/-- 'append(z, n)' of one number that was just built: all but its row is as it was. -/
theorem wpList_append_int_mine {P : Program} (w0 : World) {ops : Array Oper} {rest : List Oper} {o : Oper} {a : Act} {Q : Exit → Act → World → Prop}
    (hgd : o.guard = none) (s x : Operand) (t : TypeId) (ho : o.op = .call { callee := .builtin .append, args := #[s, x], argTypes := #[t, t] })
    (base : Nat) (i : TypeInfo) (ht : P.underlying t = some (.slice 3)) (hi : P.info? 3 = some i) (hz : i.zero = some (.int .i64 0)) (hsize : i.size = 1) (hby : i.bytes = 8)
    (v : Value) (l : List Int) (hs : a.eval s = v) (hown : OwnInts w0 base v l) (y : Int) (hx : a.eval x = .slice (some ⟨w0.heap.size, 0, none⟩) 1 1)
    (hl : l.length ≤ 1000000) (hbase : base ≤ w0.heap.size)
    (h : ∀ v' w', OwnInts w' base v' (l ++ [y]) → Kept (fun k => v.ownBlock = some k) w0 w' → (∀ k, v'.ownBlock = some k → v.ownBlock = some k ∨ w0.heap.size ≤ k) → wpList P ops Q rest (a.put o.dst v') w') : wpList P ops Q (o :: rest) a (w0.alloc (.cells #[.int .i64 y] 3)) := by
  refine wpList_append_mine _ hgd s x t ho base 3 i (.int .i64 0) 1 8 ht hi hz hsize hby rfl (by decide) v l.length (i64s l) hs (World.ownsRow.alloc hown _) ⟨w0.heap.size, 0, none⟩ 1 1 [.int .i64 y] hx rfl ?c1 ?c2 (by decide) ?b1 ?b2 ?b3 ?_
  case c1 => intro j u hj; match j, hj with | 0, hj => simp at hj; subst hj; simp [Addr.add]
  case c2 => intro u hu; simp at hu; subst hu; rfl
  case b1 => unfold maxLen; omega
  case b2 => omega
  case b3 => simp; omega
  intro g cap w' H1 HG HN
  refine h _ w' ?_ ((Kept.alloc _ w0 _).trans (Kept.grown HG.out)) ?_
  · show World.ownsRow _ _ _ _ _ _ _
    have := H1.out
    simpa [i64s] using this
  · intro k hk
    simp [Value.ownBlock] at hk
    subst hk
    rcases HN.out with h2 | h2
    · exact .inl h2
    · simp at h2
      exact .inr (by omega)

/-- 'append(z, n)' of one number that was just built, its outcome named. -/
theorem wpList_append_int_as {P : Program} (w0 : World) {ops : Array Oper} {rest : List Oper} {o : Oper} {a : Act} {Q : Exit → Act → World → Prop}
    (hgd : o.guard = none) (s x : Operand) (t : TypeId) (ho : o.op = .call { callee := .builtin .append, args := #[s, x], argTypes := #[t, t] })
    (base : Nat) (i : TypeInfo) (ht : P.underlying t = some (.slice 3)) (hi : P.info? 3 = some i) (hz : i.zero = some (.int .i64 0)) (hsize : i.size = 1) (hby : i.bytes = 8)
    (v : Value) (l us : List Int) (hs : a.eval s = v) (hown : OwnInts w0 base v l) (y : Int) (hus : us = l ++ [y]) (hx : a.eval x = .slice (some ⟨w0.heap.size, 0, none⟩) 1 1)
    (hl : l.length ≤ 1000000) (hbase : base ≤ w0.heap.size)
    (h : ∀ ya yc w', Hid (OwnInts w' base (.slice ya us.length yc) us) → Hid (IntsAt w' ya us) → Hid (Below base w0 w') → wpList P ops Q rest (a.put o.dst (.slice ya us.length yc)) w') : wpList P ops Q (o :: rest) a (w0.alloc (.cells #[.int .i64 y] 3)) := by
  refine wpList_append_int w0 hgd s x t ho base i ht hi hz hsize hby v l hs hown y hx hl hbase ?_
  intro v' w' h1 h2
  rw [← hus] at h1
  obtain ⟨ya, yc, rfl, hy, _⟩ := h1.out.slice
  exact h ya yc w' h1 hy h2

/-- Numbers that can be read, and their room. -/
structure Ns (w : World) (a : Option Addr) (cap : Nat) (l : List Int) : Prop where
  at_ : IntsAt w a l
  le : l.length ≤ cap
  nil : a = none → cap = 0
theorem IntsAt.mono {w w' : World} {a : Option Addr} {l : List Int} (h : IntsAt w a l) (hb : Below w.heap.size w w') : IntsAt w' a l := by
  intro j x hx
  obtain ⟨b, off, rfl, hc⟩ := h j x hx
  refine ⟨b, off, rfl, ?_⟩
  rw [hb.cell (p := ⟨b, off + j, none⟩) (World.block_lt_of_cell? w _ hc)]
  exact hc
theorem Ns.mono {w w' : World} {a : Option Addr} {cap : Nat} {l : List Int} (h : Ns w a cap l) (hb : Below w.heap.size w w') : Ns w' a cap l := ⟨h.at_.mono hb, h.le, h.nil⟩
theorem IntsAt.drewN {w : World} {a : Option Addr} {l : List Int} (h : IntsAt w a l) (n : Nat) : IntsAt (w.drewN n) a l := h
theorem Ns.drewN {w : World} {a : Option Addr} {cap : Nat} {l : List Int} (h : Ns w a cap l) (n : Nat) : Ns (w.drewN n) a cap l := ⟨h.at_.drewN n, h.le, h.nil⟩
theorem OwnInts.mono {w w' : World} {base : Nat} {v : Value} {l : List Int} (h : OwnInts w base v l) (hb : Below w.heap.size w w') : OwnInts w' base v l := h.below hb (fun k hk => (World.ownsRow.lt h k hk).2)
theorem OwnInts.base {w : World} {base base' : Nat} {v : Value} {l : List Int} (h : OwnInts w base v l) (hb : base' ≤ base) : OwnInts w base' v l := ownsRow_base h hb
theorem OwnInts.drewN {w : World} {base : Nat} {v : Value} {l : List Int} (h : OwnInts w base v l) (n : Nat) : OwnInts (w.drewN n) base v l := h
theorem OwnInts.ns {w : World} {base : Nat} {v : Value} {l : List Int} (h : OwnInts w base v l) : ∃ a cap, v = .slice a l.length cap ∧ Ns w a cap l ∧ (a = none ∧ l = [] ∧ cap = 0 ∨ ∃ g, a = some ⟨g, 0, none⟩) ∧ cap ≤ maxLen := by
  have h' := h
  rcases h.2 with ⟨rfl, hn⟩ | ⟨g, cap, cur, rfl, hb, hh, hn, hm, hcs, htake⟩
  · have : l = [] := List.eq_nil_of_length_eq_zero hn
    subst this
    exact ⟨none, 0, rfl, ⟨IntsAt.nil w _, Nat.le_refl _, fun _ => rfl⟩, .inl ⟨rfl, rfl, rfl⟩, by decide⟩
  · exact ⟨some ⟨g, 0, none⟩, cap, rfl, ⟨IntsAt.of_owns h, hn, fun e => by cases e⟩, .inr ⟨g, rfl⟩, hm⟩
/-- A row of numbers that was just built. -/
theorem OwnInts.lit (w : World) (base : Nat) (l : List Int) (n : Nat) (hn : l.length = n) (hb : base ≤ w.heap.size) (hl : n ≤ 1000000) (cs : Array Value) (hcs : cs.toList = i64s l) : OwnInts (w.alloc (.cells cs 3)) base (.slice (some ⟨w.heap.size, 0, none⟩) n n) l := by
  subst hn
  have hs : cs.size = l.length := by have := congrArg List.length hcs; simpa using this
  have := World.ownsRow_lit (e := 3) (size := 1) (base := base) w cs l.length hb (by unfold maxLen; omega) (by omega)
  show World.ownsRow _ _ _ _ _ _ _
  rw [← hcs]
  exact this
theorem slice_ints (a : Option Addr) (n cap k : Nat) (hk : k ≤ cap) (W : World) : (Instr.sliceAt 23 (.slice a n cap) none (some (.int .i64 (k : Int))) none).run Try.prog W = .ok (.slice a k cap) W := by
  obtain ⟨i0, hi, hz0, hz1, hz2⟩ := info_parts Try.info3
  simp [Instr.sliceAt, Instr.slice, Instr.sliceBounds, Instr.sliceBound, asIntOf, run_underlying Try.underlying23, sizeOf, typeInfo, hi, hk]
  cases a <;> simp [Addr.add]
theorem i64s_append (l m : List Int) : i64s (l ++ m) = i64s l ++ i64s m := by simp [i64s]
/-- 'append(s, x...)' of numbers to a row of the call's own. -/
theorem wpList_append_ints (w : World) {ops : Array Oper} {rest : List Oper} {o : Oper} {a : Act} {Q : Exit → Act → World → Prop}
    (hgd : o.guard = none) (s x : Operand) (ho : o.op = .call { callee := .builtin .append, args := #[s, x], argTypes := #[23, 23] })
    (base : Nat) (v : Value) (l : List Int) (hs : a.eval s = v) (hown : OwnInts w base v l) (xa : Option Addr) (xc : Nat) (m : List Int) (hx : a.eval x = .slice xa m.length xc) (hm : Ns w xa xc m)
    (hl : l.length + m.length ≤ 1000000) (hbase : base ≤ w.heap.size)
    (h : ∀ v' w', Hid (OwnInts w' base v' (l ++ m)) → Hid (Kept (fun k => v.ownBlock = some k) w w') → Hid (∀ k, v'.ownBlock = some k → v.ownBlock = some k ∨ w.heap.size ≤ k) → wpList Try.prog ops Q rest (a.put o.dst v') w') : wpList Try.prog ops Q (o :: rest) a w := by
  obtain ⟨i0, hi, hz0, hz1, hz2⟩ := info_parts Try.info3
  have hown' : w.ownsRow base 3 1 v l.length (i64s l) := hown
  cases xa with
  | none =>
    have hc := hm.nil rfl
    have hle := hm.le
    have hm0 : m = [] := List.eq_nil_of_length_eq_zero (by omega)
    subst hm0 hc
    refine wpList_append_own_none hgd s x 23 ho base 3 i0 1 Try.underlying23 hi v l.length (i64s l) hs hown' hx ?_
    refine h v w ?_ (Kept.refl _ _) (fun k hk => .inl hk)
    rw [List.append_nil]; exact hown
  | some ad =>
    have hcell : ∀ j u, (i64s m)[j]? = some u → w.cell? (ad.add j) = some u := by
      intro j u hu
      rw [i64s_get] at hu
      obtain ⟨y, hy, rfl⟩ := Option.map_eq_some_iff.1 hu
      obtain ⟨b, off, e, hc⟩ := hm.at_ j y hy
      cases e
      have hadd : (⟨b, off, none⟩ : Addr).add j = ⟨b, off + j, none⟩ := by simp [Addr.add]
      rw [hadd]
      exact hc
    have hone : ∀ u ∈ i64s m, u.oneCell' = true := by intro u hu; simp [i64s] at hu; obtain ⟨y, _, rfl⟩ := hu; rfl
    by_cases hne : m = []
    · subst hne
      rcases hown'.2 with ⟨hv, hn⟩ | ⟨g, cap, cur, hv, hb, hh, hn, hcm, hcs, htake⟩
      · refine wpList_append_own _ hgd s x 23 ho base 3 i0 (.int .i64 0) 1 8 Try.underlying23 hi hz0 hz1 hz2 rfl (by decide) v l.length (i64s l) hs hown' ad 0 xc [] hx rfl (fun j u hu => by simp at hu) (fun u hu => by simp at hu) (by unfold maxLen; omega) (by omega) hbase ?_
        intro v' w' h1 h2 h3
        have hv' : v' = .slice none 0 0 := h3.2 ⟨hv, rfl⟩
        refine h v' w' ?_ (Kept.grown h2) (fun k hk => by rw [hv'] at hk; cases hk)
        show World.ownsRow _ _ _ _ _ _ _
        simpa [i64s_append] using h1
      · refine wpList_append_fits w hgd s x 23 ho base 3 i0 1 Try.underlying23 hi hz1 g l.length cap (i64s l) (hs.trans hv) (hv ▸ hown') ad 0 xc [] hx rfl (fun j u hu => by simp at hu) (fun u hu => by simp at hu) (by omega) ?_
        intro w' h1 h2
        refine h _ w' ?_ ?_ (fun k hk => .inl ?_)
        · show World.ownsRow _ _ _ _ _ _ _
          simpa [i64s_append] using h1
        · have := Kept.grown h2
          rw [hv]; exact this
        · rw [hv]; exact hk
    · refine wpList_append_mine _ hgd s x 23 ho base 3 i0 (.int .i64 0) 1 8 Try.underlying23 hi hz0 hz1 hz2 rfl (by decide) v l.length (i64s l) hs hown' ad m.length xc (i64s m) hx (by simp) hcell hone (List.length_pos_iff.2 hne) (by unfold maxLen; omega) (by omega) hbase ?_
      intro g cap w' h1 h2 h3
      refine h _ w' ?_ (Kept.grown h2.out) (fun k hk => ?_)
      · show World.ownsRow _ _ _ _ _ _ _
        rw [i64s_append, List.length_append]; exact h1.out
      · simp [Value.ownBlock] at hk
        subst hk
        exact h3.out

/-- 'append(z, n)' of one number that was just built, as one step of a region that draws its order. -/
theorem step_append_int {P : Program} {ops : Array Oper} {o : Oper} {a : Act} (w0 : World) {K : Act → World → Prop} {Q : Exit → Act → World → Prop} {E : Prop}
    (hgd : o.guard = none) (s x : Operand) (t : TypeId) (ho : o.op = .call { callee := .builtin .append, args := #[s, x], argTypes := #[t, t] })
    (base : Nat) (i : TypeInfo) (ht : P.underlying t = some (.slice 3)) (hi : P.info? 3 = some i) (hz : i.zero = some (.int .i64 0)) (hsize : i.size = 1) (hby : i.bytes = 8)
    (v : Value) (l : List Int) (hs : a.eval s = v) (hown : OwnInts w0 base v l) (y : Int) (hx : a.eval x = .slice (some ⟨w0.heap.size, 0, none⟩) 1 1)
    (hl : l.length ≤ 1000000) (hbase : base ≤ w0.heap.size)
    (hK : ∀ v' w', Hid (OwnInts w' base v' (l ++ [y])) → Hid (Below base w0 w') → K (a.put o.dst v') w') :
    if Region.wanted o (yielded ops a.tmps) = true then Oper.wp P o a (w0.alloc (.cells #[.int .i64 y] 3)) K Q else E := by
  have hw : Region.wanted o (yielded ops a.tmps) = true := by simp [Region.wanted, hgd]
  rw [if_pos hw]
  obtain ⟨v', w', hrun, r1, r2, r3⟩ := run_append_own (P := P) (w0.alloc (.cells #[.int .i64 y] 3)) base t o.type 3 i (.int .i64 0) 1 8 ht hi hz hsize hby rfl (by decide) v l.length (i64s l) (World.ownsRow.alloc hown _) ⟨w0.heap.size, 0, none⟩ 1 1 [.int .i64 y] rfl
    (by intro j u hj; match j, hj with | 0, hj => simp at hj; subst hj; simp [Addr.add]) (by intro u hu; simp at hu; subst hu; rfl) (by unfold maxLen; omega) (by omega) (by simp; omega)
  unfold Oper.wp
  simp [execOp, ho, resolve, invoke, builtin, hs, hx, hrun, Result.andThen]
  refine hK v' w' ?_ ?_
  · show World.ownsRow _ _ _ _ _ _ _
    simpa [i64s] using r1
  · exact ((Below.refl base w0).alloc hbase _).grown r2 (by simp; omega) (fun k hk => (World.ownsRow.lt hown k hk).1)

end Go.Proofs.Ytejgkgnocgplbaa

/- Predictors over lists of numbers: coefficients, guesses, what is left, what is restored; no program. -/
namespace Go.Proofs.Ytejgkgnocgplbaa
set_option linter.unusedVariables false
set_option linter.unusedSimpArgs false
open Go.RowKit Dg

/-- A sample that may be. -/
def isS (x : Int) : Prop := -8388608 ≤ x ∧ x ≤ 8388607
instance (x : Int) : Decidable (isS x) := by unfold isS; infer_instance
def allS (l : List Int) : Prop := ∀ x ∈ l, isS x
instance (l : List Int) : Decidable (allS l) := by unfold allS; infer_instance
theorem allS.take {l : List Int} (h : allS l) (n : Nat) : allS (l.take n) := fun x hx => h x (List.mem_of_mem_take hx)
theorem allS.snoc {l : List Int} (h : allS l) {x : Int} (hx : isS x) : allS (l ++ [x]) := by
  intro y hy
  rcases List.mem_append.1 hy with h1 | h1
  · exact h y h1
  · simp at h1; subst h1; exact hx
theorem getD_of {l : List Int} {k : Nat} {x : Int} (h : l[k]? = some x) : l.getD k 0 = x := by simp [List.getD, h]
theorem allS.at {l : List Int} (h : allS l) {k : Nat} (hk : k < l.length) : isS (l.getD k 0) := by
  have e : l[k]? = some l[k] := by simp [hk]
  rw [getD_of e]
  exact h _ (List.getElem_mem hk)
/-- The fixed predictors' coefficients. -/
def coefs (o : Int) : List Int := if o = 1 then [1] else if o = 2 then [2, -1] else if o = 3 then [3, -3, 1] else if o = 4 then [4, -6, 4, -1] else []
theorem coefs_of {o : Int} (h : o = 0 ∨ o = 1 ∨ o = 2 ∨ o = 3 ∨ o = 4) : (coefs o).length = o.toNat ∧ ∀ c ∈ coefs o, -6 ≤ c ∧ c ≤ 6 := by
  rcases h with rfl | rfl | rfl | rfl | rfl <;> simp [coefs]
theorem coefs_ge (o : Int) (h0 : 0 ≤ o) (h4 : o ≤ 4) : ((coefs o).length : Int) = o ∧ ∀ c ∈ coefs o, -6 ≤ c ∧ c ≤ 6 := by
  have h := coefs_of (o := o) (by omega)
  exact ⟨by have := h.1; omega, h.2⟩
theorem coefs_le (o : Int) : (coefs o).length ≤ 4 := by
  unfold coefs
  split
  · simp
  split
  · simp
  split
  · simp
  split <;> simp
/-- The first terms of a guess: each coefficient with the number that lies so far ahead. -/
def gsum (past cs : List Int) : Nat → Int
  | 0 => 0
  | k + 1 => gsum past cs k + cs.getD k 0 * past.getD (past.length - 1 - k) 0
def guessZ (past cs : List Int) : Int := gsum past cs cs.length
theorem mul_small {c x : Int} (hc : -6 ≤ c ∧ c ≤ 6) (hx : isS x) : -50331648 ≤ c * x ∧ c * x ≤ 50331648 := by
  unfold isS at hx
  rcases (by omega : c = -6 ∨ c = -5 ∨ c = -4 ∨ c = -3 ∨ c = -2 ∨ c = -1 ∨ c = 0 ∨ c = 1 ∨ c = 2 ∨ c = 3 ∨ c = 4 ∨ c = 5 ∨ c = 6) with rfl | rfl | rfl | rfl | rfl | rfl | rfl | rfl | rfl | rfl | rfl | rfl | rfl <;> omega
theorem gsum_small {past cs : List Int} (hS : allS past) (hC : ∀ c ∈ cs, -6 ≤ c ∧ c ≤ 6) (hl : cs.length ≤ past.length) (k : Nat) (hk : k ≤ cs.length) : -50331648 * (k : Int) ≤ gsum past cs k ∧ gsum past cs k ≤ 50331648 * (k : Int) := by
  induction k with
  | zero => simp [gsum]
  | succ k ih =>
    have ih := ih (by omega)
    have hk' : k < cs.length := by omega
    have e : cs[k]? = some cs[k] := by simp [hk']
    have h1 := mul_small (hC cs[k] (List.getElem_mem hk')) (hS.at (k := past.length - 1 - k) (by omega))
    simp only [gsum]
    rw [getD_of e]
    omega
theorem guess_small {past cs : List Int} (hS : allS past) (hC : ∀ c ∈ cs, -6 ≤ c ∧ c ≤ 6) (hl : cs.length ≤ past.length) (h4 : cs.length ≤ 4) : -201326592 ≤ guessZ past cs ∧ guessZ past cs ≤ 201326592 := by
  have := gsum_small hS hC hl cs.length (Nat.le_refl _)
  unfold guessZ
  omega
/-- What the predictor of an order leaves. -/
def residZ (l : List Int) (o : Nat) : List Int := (List.range (l.length - o)).map fun j => l.getD (o + j) 0 - guessZ (l.take (o + j)) (coefs (o : Int))
@[simp] theorem length_residZ (l : List Int) (o : Nat) : (residZ l o).length = l.length - o := by simp [residZ]
theorem residZ_get (l : List Int) (o i : Nat) (ho : o ≤ i) (hi : i < l.length) : (residZ l o)[i - o]? = some (l.getD i 0 - guessZ (l.take i) (coefs (o : Int))) := by
  unfold residZ
  rw [List.getElem?_map, List.getElem?_range (by omega)]
  simp only [Option.map_some]
  rw [show o + (i - o) = i by omega]
theorem residZ_next (l : List Int) (o i : Nat) (ho : o ≤ i) (hi : i < l.length) (y : Int) (hy : y = l.getD i 0 - guessZ (l.take i) (coefs (o : Int))) : (residZ l o).take (i + 1 - o) = (residZ l o).take (i - o) ++ [y] := by
  rw [show i + 1 - o = i - o + 1 by omega]
  exact take_next _ _ _ (by rw [hy]; exact residZ_get l o i ho hi)
/-- What Residual answers: the numbers, and how it ends. -/
def resOut (l : List Int) (o : Int) : List Int × Int :=
  if o < 0 ∨ 4 < o ∨ (l.length : Int) < o then ([], 1) else if allS l then (if 64 < l.length then ([], 4) else (residZ l o.toNat, 0)) else ([], 8)
/-- The samples that have these residuals, behind what is there; none: a sample that may not be. -/
def restZ (cs : List Int) : List Int → List Int → Option (List Int)
  | x, [] => some x
  | x, r :: rs => if isS (guessZ x cs + r) then restZ cs (x ++ [guessZ x cs + r]) rs else none
def restOut (warm res : List Int) : List Int × Int :=
  if 4 < warm.length then ([], 1) else if allS warm then (match restZ (coefs (warm.length : Int)) warm res with | none => ([], 8) | some x => if 64 < x.length then ([], 4) else (x, 0)) else ([], 8)
theorem restZ_good {cs x res : List Int} {j : Nat} {r : Int} (h : res[j]? = some r) (hs : isS (guessZ x cs + r)) (T : Option (List Int)) (hT : T = restZ cs x (res.drop j)) : T = restZ cs (x ++ [guessZ x cs + r]) (res.drop (j + 1)) := by
  have hj : j < res.length := (List.getElem?_eq_some_iff.1 h).1
  have e : res[j] = r := (List.getElem?_eq_some_iff.1 h).2
  rw [hT, List.drop_eq_getElem_cons hj, e]
  simp only [restZ]
  rw [if_pos hs]
theorem restZ_bad {cs x res : List Int} {j : Nat} {r : Int} (h : res[j]? = some r) (hs : ¬ isS (guessZ x cs + r)) (T : Option (List Int)) (hT : T = restZ cs x (res.drop j)) : T = none := by
  have hj : j < res.length := (List.getElem?_eq_some_iff.1 h).1
  have e : res[j] = r := (List.getElem?_eq_some_iff.1 h).2
  rw [hT, List.drop_eq_getElem_cons hj, e]
  simp only [restZ]
  rw [if_neg hs]
theorem restZ_end {cs x res : List Int} (T : Option (List Int)) (hT : T = restZ cs x (res.drop res.length)) : T = some x := by
  rw [hT, List.drop_length]
  rfl

end Go.Proofs.Ytejgkgnocgplbaa

/- The small functions of fixed, and Residual. -/
namespace Go.Proofs.Ytejgkgnocgplbaa
set_option linter.unusedVariables false
set_option linter.unusedSimpArgs false
open Go.RowKit Dg

set_option maxHeartbeats 1000000 in
theorem fcoefs_any (w : World) (o : Int) :
    Calls Try.prog 52 #[.int .i64 o] w fun e w' => ∃ v, e = .returned v ∧ OwnInts w' w.heap.size v (coefs o) ∧ Below w.heap.size w w' := by
  have hb : ∀ obj, Below w.heap.size w (w.alloc obj) := fun obj => (Below.refl _ _).alloc (Nat.le_refl _) _
  by_cases h1 : o = 1
  · subst h1
    go_enter Try.func52, Try.ntmps52
    go_wp2
    go_ret
    exact ⟨_, rfl, OwnInts.lit _ _ _ _ rfl (Nat.le_refl _) (by decide) _ rfl, hb _⟩
  by_cases h2 : o = 2
  · subst h2
    go_enter Try.func52, Try.ntmps52
    go_wp2
    go_ret
    exact ⟨_, rfl, OwnInts.lit _ _ _ _ rfl (Nat.le_refl _) (by decide) _ rfl, hb _⟩
  by_cases h3 : o = 3
  · subst h3
    go_enter Try.func52, Try.ntmps52
    go_wp2
    go_ret
    exact ⟨_, rfl, OwnInts.lit _ _ _ _ rfl (Nat.le_refl _) (by decide) _ rfl, hb _⟩
  by_cases h4 : o = 4
  · subst h4
    go_enter Try.func52, Try.ntmps52
    go_wp2
    go_ret
    exact ⟨_, rfl, OwnInts.lit _ _ _ _ rfl (Nat.le_refl _) (by decide) _ rfl, hb _⟩
  · have e : coefs o = [] := by simp [coefs, h1, h2, h3, h4]
    have HE : Hid (coefs o = []) := e
    clear e
    go_enter Try.func52, Try.ntmps52
    go_wp2
    go_ret
    exact ⟨_, rfl, by rw [HE.out]; exact OwnInts.nil _ _, Below.refl _ _⟩

set_option maxHeartbeats 1000000 in
theorem fare_any (w : World) (a : Option Addr) (cap : Nat) (l : List Int) (h : IntsAt w a l) (hl : l.length ≤ 1000000) (t : Bool) (ht : t = decide (allS l)) :
    Calls Try.prog 51 #[.slice a l.length cap] w fun e w' => e = .returned (.bool t) ∧ w = w' := by
  have H : Hid (IntsAt w a l) := h
  have HT : Hid (t = decide (allS l)) := ht
  clear h ht
  go_enter Try.func51, Try.ntmps51
  go_wp2
  go_loopw [7] (fun i wr => ∃ k : Nat, k ≤ l.length ∧ i = .int .i64 k ∧ Hid (allS (l.take k)) ∧ w = wr) (fun i _ => l.length - (intOf i).toNat)
  case atStart => exact ⟨0, Nat.zero_le _, rfl, fun x hx => by simp at hx, rfl⟩
  case round =>
    obtain ⟨k, hk, rfl, hall, rfl⟩ := hrel
    by_cases hkn : k < l.length
    · obtain ⟨x, hx⟩ : ∃ x, l[k]? = some x := ⟨l[k], by simp [hkn]⟩
      obtain ⟨b, off, rfl, hc⟩ := H.out k x hx
      have HX : Hid (l[k]? = some x) := hx
      clear hx
      have hbad : ¬ isS x → t = false := fun hn => by
        rw [HT.out]
        exact decide_eq_false (fun ha => hn (ha x (List.mem_of_getElem? HX.out)))
      by_cases hlo : x < -8388608
      · have ht := hbad (by unfold isS; omega)
        subst ht
        clear hbad
        go_wp2_with fail
        go_ret
        exact ⟨rfl, rfl⟩
      · by_cases hhi : 8388607 < x
        · have ht := hbad (by unfold isS; omega)
          subst ht
          clear hbad
          go_wp2_with fail
          go_ret
          exact ⟨rfl, rfl⟩
        · clear hbad
          go_wp2_with fail
          refine ⟨⟨k + 1, by omega, by go_num, ?_, by trivial⟩, by (simp [intOf]) <;> omega⟩
          show allS _
          rw [take_next l k x HX.out]
          exact hall.out.snoc (by unfold isS; omega)
    · have e : k = l.length := by omega
      subst e
      have ht : t = true := by
        have := hall.out
        rw [List.take_length] at this
        rw [HT.out]; exact decide_eq_true this
      subst ht
      go_wp2_with fail
      go_ret
      exact ⟨rfl, rfl⟩

set_option maxHeartbeats 1000000 in
theorem fguess_any (w : World) (a ca : Option Addr) (n cap cc : Nat) (past cs : List Int) (hn : past.length = n) (h : IntsAt w a past) (hc : IntsAt w ca cs) (hl : past.length ≤ 1000000) (hcl : cs.length ≤ past.length) (h4 : cs.length ≤ 4) (hS : allS past) (hC : ∀ c ∈ cs, -6 ≤ c ∧ c ≤ 6) (g : Int) (hg : g = guessZ past cs) :
    Calls Try.prog 53 #[.slice a n cap, .slice ca cs.length cc] w fun e w' => e = .returned (.int .i64 g) ∧ w = w' := by
  subst hn
  have H : Hid (IntsAt w a past) := h
  have HC : Hid (IntsAt w ca cs) := hc
  have HS : Hid (allS past) := hS
  have HCC : Hid (∀ c ∈ cs, -6 ≤ c ∧ c ≤ 6) := hC
  have HG : Hid (g = guessZ past cs) := hg
  clear h hc hS hC hg
  go_enter Try.func53, Try.ntmps53
  go_wp2
  go_loopw [5, 10] (fun s i wr => ∃ (k : Nat) (t : Int), k ≤ cs.length ∧ s = .int .i64 t ∧ i = .int .i64 k ∧ Hid (t = gsum past cs k) ∧ -201326592 ≤ t ∧ t ≤ 201326592 ∧ w = wr) (fun _ i _ => cs.length - (intOf i).toNat)
  case atStart => exact ⟨0, 0, Nat.zero_le _, rfl, rfl, rfl, by decide, by decide, rfl⟩
  case round =>
    obtain ⟨k, t, hk, rfl, rfl, ht, ht1, ht2, rfl⟩ := hrel
    by_cases hkn : k < cs.length
    · obtain ⟨c, hcx⟩ : ∃ x, cs[k]? = some x := ⟨cs[k], by simp [hkn]⟩
      obtain ⟨b1, o1, rfl, hc1⟩ := HC.out k c hcx
      obtain ⟨m, hm⟩ : ∃ m, m = past.length - 1 - k := ⟨_, rfl⟩
      have hml : m < past.length := by omega
      obtain ⟨x, hx⟩ : ∃ x, past[m]? = some x := ⟨past[m], by simp [hml]⟩
      obtain ⟨b2, o2, rfl, hc2⟩ := H.out m x hx
      have hmI : (past.length : Int) - 1 - (k : Int) = (m : Int) := by omega
      have hcs := HCC.out c (List.mem_of_getElem? hcx)
      have hxs := HS.out x (List.mem_of_getElem? hx)
      obtain ⟨p, hp⟩ : ∃ p, p = c * x := ⟨_, rfl⟩
      have hp12 := mul_small hcs hxs
      rw [← hp] at hp12
      obtain ⟨hp1, hp2⟩ := hp12
      have HP : Hid (c * x = p) := hp.symm
      have hnext : t + p = gsum past cs (k + 1) := by
        simp only [gsum]
        rw [getD_of hcx, ← hm, getD_of hx, ← hp, ← ht.out]
      have hb' := gsum_small HS.out HCC.out hcl (k + 1) (by omega)
      rw [← hnext] at hb'
      have hb1 : -201326592 ≤ t + p := by omega
      have hb2 : t + p ≤ 201326592 := by omega
      have HN : Hid (t + p = gsum past cs (k + 1)) := hnext
      clear hm hb' hnext hp hcs hxs hcx hx
      go_wp2_with fail
      rw [HP.out, Go.IntWalk.wrap64_in p (by omega), Go.IntWalk.wrap64_in (t + p) (by omega)]
      exact ⟨⟨k + 1, t + p, by omega, rfl, by go_num, HN, hb1, hb2, by trivial⟩, by (simp [intOf]) <;> omega⟩
    · have e : k = cs.length := by omega
      subst e
      have e2 : t = g := by rw [ht.out, HG.out]; rfl
      subst e2
      go_wp2_with fail
      go_ret
      exact ⟨rfl, rfl⟩

/-- What a function of a list and an error has given. -/
def Gave (w w' : World) (R : List Int × Int) (e : Ending) : Prop :=
  ∃ v, e = .returned (.tuple #[v, .int .i64 R.2]) ∧ OwnInts w' w.heap.size v R.1 ∧ Below w.heap.size w w'
theorem Gave.none {w w' : World} {R : List Int × Int} {k : Int} (hR : R = ([], k)) (hb : Below w.heap.size w w') : Gave w w' R (.returned (.tuple #[.slice none 0 0, .int .i64 k])) := by
  subst hR
  exact ⟨_, rfl, OwnInts.nil _ _, hb⟩

set_option maxRecDepth 100000 in
set_option maxHeartbeats 4000000 in
theorem fresid_any (w : World) (a : Option Addr) (cap : Nat) (l : List Int) (o : Int) (h : Ns w a cap l) (hl : l.length ≤ 1000000) (R : List Int × Int) (hR : R = resOut l o) :
    Calls Try.prog 45 #[.slice a l.length cap, .int .i64 o] w fun e w' => Gave w w' R e := by
  obtain ⟨i0, hi, hz0, hz1, hz2⟩ := info_parts Try.info3
  unfold resOut at hR
  by_cases h1 : o < 0
  · rw [if_pos (by omega)] at hR
    have HR : Hid (R = ([], 1)) := hR
    clear hR h
    go_enter Try.func45, Try.ntmps45
    go_wp2_with fail
    go_ret2
    exact Gave.none HR.out (Below.refl _ _)
  by_cases h2 : 4 < o
  · rw [if_pos (by omega)] at hR
    have HR : Hid (R = ([], 1)) := hR
    clear hR h
    go_enter Try.func45, Try.ntmps45
    go_wp2_with fail
    go_ret2
    exact Gave.none HR.out (Below.refl _ _)
  by_cases h3 : (l.length : Int) < o
  · rw [if_pos (by omega)] at hR
    have HR : Hid (R = ([], 1)) := hR
    clear hR h
    go_enter Try.func45, Try.ntmps45
    go_wp2_with fail
    go_ret2
    exact Gave.none HR.out (Below.refl _ _)
  rw [if_neg (by omega)] at hR
  obtain ⟨n, rfl⟩ := Int.eq_ofNat_of_zero_le (show 0 ≤ o by omega)
  have H : Hid (Ns w a cap l) := h
  clear h
  by_cases hS : allS l
  case neg =>
    rw [if_neg hS] at hR
    have HT : Hid (false = decide (allS l)) := (decide_eq_false hS).symm
    have HR : Hid (R = ([], 8)) := hR
    clear hR hS
    go_enter Try.func45, Try.ntmps45
    go_wp2_with (go_at_call 51; refine (fare_any _ _ _ _ H.out.at_ hl false HT.out).mono ?_; rintro e w1 ⟨rfl, rfl⟩)
    go_ret2
    exact Gave.none HR.out (Below.refl _ _)
  case pos =>
    rw [if_pos hS] at hR
    have HT : Hid (true = decide (allS l)) := (decide_eq_true hS).symm
    by_cases h64 : 64 < l.length
    · rw [if_pos h64] at hR
      have HR : Hid (R = ([], 4)) := hR
      clear hR hS
      go_enter Try.func45, Try.ntmps45
      go_wp2_with (go_at_call 51; refine (fare_any _ _ _ _ H.out.at_ hl true HT.out).mono ?_; rintro e w1 ⟨rfl, rfl⟩)
      go_ret2
      exact Gave.none HR.out (Below.refl _ _)
    · rw [if_neg h64, Int.toNat_natCast] at hR
      have HR : Hid (R = (residZ l n, 0)) := hR
      have HS : Hid (allS l) := hS
      clear hR hS
      have h4 : n ≤ 4 := by omega
      have hnl : n ≤ l.length := by omega
      obtain ⟨hcl, hcb⟩ := coefs_ge (n : Int) (by omega) (by omega)
      obtain ⟨cs, hcs⟩ : ∃ cs, cs = coefs (n : Int) := ⟨_, rfl⟩
      rw [← hcs] at hcl hcb
      have HCS : Hid (coefs (n : Int) = cs) := hcs.symm
      have HCB : Hid (∀ c ∈ cs, -6 ≤ c ∧ c ≤ 6) := hcb
      have hcl' : cs.length = n := by omega
      have HCL : Hid (cs.length = n) := hcl'
      clear hcs hcb hcl hcl' h1 h2 h3
      go_enter Try.func45, Try.ntmps45
      go_wp2_with first
        | (go_at_call 51; refine (fare_any _ _ _ _ H.out.at_ hl true HT.out).mono ?_; rintro e w1 ⟨rfl, rfl⟩)
        | (go_at_call 52; refine (fcoefs_any _ _).mono ?_; rw [HCS.out]; rintro e w1 ⟨cv, rfl, hco, hb1⟩; obtain ⟨ca, cc, rfl, hcn, -, -⟩ := hco.ns; have HC1 : Hid (IntsAt w1 ca cs) := hcn.at_; have HB1 : Hid (Below w.heap.size w w1) := hb1; clear hco hcn hb1)
      have hsw : w.heap.size ≤ w1.heap.size := HB1.out.size
      go_loopw [7, 8] (fun v i wr => ∃ (k : Nat), n ≤ k ∧ k ≤ l.length ∧ i = .int .i64 (k : Int) ∧ Hid (OwnInts wr w1.heap.size v ((residZ l n).take (k - n))) ∧ Hid (Below w1.heap.size w1 wr)) (fun _ i _ => l.length - (intOf i).toNat)
      case atStart => exact ⟨n, Nat.le_refl _, hnl, rfl, by rw [Nat.sub_self]; exact OwnInts.nil _ _, Below.refl _ _⟩
      case round =>
        obtain ⟨k, hnk, hkl, rfl, ho, hb⟩ := hrel
        by_cases hk : k < l.length
        · obtain ⟨x, hx⟩ : ∃ x, l[k]? = some x := ⟨l[k], by simp [hk]⟩
          have hbw : Below w.heap.size w wr := HB1.out.trans (hb.out.mono hsw)
          have hat := H.out.at_.mono hbw
          obtain ⟨b, off, rfl, hc⟩ := hat k x hx
          have hs1 := slice_ints (some ⟨b, off, none⟩) l.length cap k (by have := H.out.le; omega)
          have HTL : Hid ((l.take k).length = k) := by show _ = _; simp; omega
          have HTK : Hid (IntsAt wr (some ⟨b, off, none⟩) (l.take k)) := hat.take k
          have HTS : Hid (allS (l.take k)) := HS.out.take k
          have HC2 : Hid (IntsAt wr ca cs) := HC1.out.mono hb.out
          obtain ⟨g, hg⟩ : ∃ g, g = guessZ (l.take k) cs := ⟨_, rfl⟩
          have HG : Hid (g = guessZ (l.take k) cs) := hg
          have hgb := guess_small HTS.out HCB.out (by rw [HTL.out, HCL.out]; exact hnk) (by rw [HCL.out]; exact h4)
          rw [← hg] at hgb
          obtain ⟨hg1, hg2⟩ := hgb
          obtain ⟨hx1, hx2⟩ := HS.out x (List.mem_of_getElem? hx)
          obtain ⟨y, hy⟩ : ∃ y, y = x - g := ⟨_, rfl⟩
          have HNX : Hid ((residZ l n).take (k + 1 - n) = (residZ l n).take (k - n) ++ [x - g]) := residZ_next l n k hnk hk _ (by rw [getD_of hx, HCS.out, ← hg])
          have hol : ((residZ l n).take (k - n)).length ≤ 1000000 := by simp; omega
          have hsz : w1.heap.size ≤ wr.heap.size := hb.out.size
          clear hx hg hat hbw
          go_wp2_with fail
          have HW : Hid (IntKind.i64.wrap (x - g) = x - g) := Go.IntWalk.i64_in _ (by omega)
          go_region_law first
            | (go_simp; go_at_call 53; refine (fguess_any wr.drew _ _ _ _ _ _ _ HTL.out HTK.out HC2.out (by rw [HTL.out]; omega) (by rw [HTL.out, HCL.out]; exact hnk) (by rw [HCL.out]; exact h4) HTS.out HCB.out g HG.out).mono ?_; rintro e w2 ⟨rfl, rfl⟩)
            | (refine step_append_int wr.drew rfl (.tmp 36) (.tmp 47) 23 rfl w1.heap.size i0 Try.underlying23 hi hz0 hz1 hz2 u7 ((residZ l n).take (k - n)) (by rfl) (World.ownsRow.drew ho.out) (IntKind.i64.wrap (x - g)) (by rfl) hol hsz ?_; intro v' w' h1 h2)
          all_goals
            rw [HW.out, ← HNX.out] at h1
            have HB' : Hid (Below w1.heap.size w1 w') := hb.out.drew.trans h2.out
            clear h2
            go_wp2_with fail
            exact ⟨⟨k + 1, by omega, by omega, by go_num, h1, HB'⟩, by (simp [intOf]) <;> omega⟩
        · have e : k = l.length := by omega
          subst e
          have ho' := ho.out
          rw [List.take_of_length_le (by simp)] at ho'
          have HO : Hid (OwnInts wr w1.heap.size _ (residZ l n)) := ho'
          have hbw : Hid (Below w.heap.size w wr) := HB1.out.trans (hb.out.mono hsw)
          clear ho ho' hb
          go_wp2_with fail
          go_ret2
          rw [HR.out]
          exact ⟨_, rfl, HO.out.base hsw, hbw.out⟩

end Go.Proofs.Ytejgkgnocgplbaa

/- Restore, of the program. -/
namespace Go.Proofs.Ytejgkgnocgplbaa
set_option linter.unusedVariables false
set_option linter.unusedSimpArgs false
open Go.RowKit Dg

theorem restOut_none {warm res : List Int} (h4 : ¬ 4 < warm.length) (hS : allS warm) (h : restZ (coefs (warm.length : Int)) warm res = none) : restOut warm res = ([], 8) := by
  unfold restOut
  rw [if_neg h4, if_pos hS, h]
theorem restOut_long {warm res x : List Int} (h4 : ¬ 4 < warm.length) (hS : allS warm) (h : restZ (coefs (warm.length : Int)) warm res = some x) (hx : 64 < x.length) : restOut warm res = ([], 4) := by
  unfold restOut
  rw [if_neg h4, if_pos hS, h]
  simp [hx]
theorem restOut_some {warm res x : List Int} (h4 : ¬ 4 < warm.length) (hS : allS warm) (h : restZ (coefs (warm.length : Int)) warm res = some x) (hx : ¬ 64 < x.length) : restOut warm res = (x, 0) := by
  unfold restOut
  rw [if_neg h4, if_pos hS, h]
  simp [hx]

end Go.Proofs.Ytejgkgnocgplbaa

/- The document's own answers: May, Fixed, told, Residual, Restore. -/
namespace Go.Proofs.Ytejgkgnocgplbaa
set_option linter.unusedVariables false
set_option linter.unusedSimpArgs false
open Go.RowKit Dg

def mayZ (l : List Int) : Int := if allS l then (if 64 < l.length then 4 else 0) else 8
end Go.Proofs.Ytejgkgnocgplbaa
