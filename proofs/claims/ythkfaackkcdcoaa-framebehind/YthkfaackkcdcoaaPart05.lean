/- The texts Ref3, Ref4, Ref5, Reads, Rice7, Rice2, Rice3, Rice9, one behind the other. -/
import Derived.Test.YthkfaackkcdcoaaPart04
import Derived.Test.YthkfaackkcdcoaaPart02
import Derived.Laws.AppendOwnNone

/- A reader and the document's own digits side by side: each call by one contract for all arguments. -/
namespace Go.Proofs.Ythkfaackkcdcoaa
set_option linter.unusedVariables false
set_option linter.unusedSimpArgs false
open Go.RowKit Dg

theorem cell_one {w : World} {b off : Nat} {ds : List Bool} (hc : ∀ j d, ds[j]? = some d → w.cell? ⟨b, off + j, none⟩ = some (.int .u8 (d.toNat : Int))) {i : Nat} (h : ds[i]? = some true) : w.cell? ⟨b, off + i, none⟩ = some (.int .u8 1) := hc i true h
theorem cell_nought {w : World} {b off : Nat} {ds : List Bool} (hc : ∀ j d, ds[j]? = some d → w.cell? ⟨b, off + j, none⟩ = some (.int .u8 (d.toNat : Int))) {i : Nat} (h : ds[i]? = some false) : w.cell? ⟨b, off + i, none⟩ = some (.int .u8 0) := hc i false h

/-- What a reader has left. -/
def left (l : List Nat) (k : Nat) : List Bool := (unpack l).drop k
theorem left_get (l : List Nat) (k i : Nat) : (left l k)[i]? = (unpack l)[k + i]? := by simp [left]
theorem left_len (l : List Nat) (k : Nat) : (left l k).length = 8 * l.length - k := by simp [left]
theorem left_drop (l : List Nat) (k n : Nat) : left l (k + n) = (left l k).drop n := by simp [left]

theorem rones_all (w : World) (b : Nat) (rv : Value) (l : List Nat) (k : Nat) (n : Int) (h : RdAt w b rv l k) :
    Calls Try.prog 106 #[.pointer (some ⟨b, 0, none⟩), .int .i64 n] w fun e w' => e = .returned (.tuple #[.int .i64 ((onesOut (left l k) n).1 : Nat), .bool (onesOut (left l k) n).2.2]) ∧ RdAt w' b rv l (k + (onesOut (left l k) n).2.1) ∧ Kept (fun i => i = b) w w' := by
  by_cases hbad : n < 0 ∨ 1024 < n
  · refine (rones_bad w _ n hbad).mono ?_
    rintro e w' ⟨rfl, rfl⟩
    have hg : onesOut (left l k) n = (0, 0, false) := by unfold onesOut; rw [if_neg (by omega)]
    rw [hg]
    exact ⟨rfl, h, Kept.refl _ _⟩
  · obtain ⟨N, rfl⟩ := Int.eq_ofNat_of_zero_le (show 0 ≤ n by omega)
    have hle := lead_le (left l k) N
    have hlen := lead_le_length (left l k) N
    have hll := left_len l k
    have hkl := h.le
    by_cases h1 : lead (left l k) N = N
    · have hg : onesOut (left l k) (N : Nat) = (N, N, true) := by unfold onesOut; rw [if_pos (by omega)]; simp [h1]
      rw [hg]
      exact rones_most w b rv l k N h (by omega) (by omega) (fun i hi => by rw [← left_get]; exact lead_true _ N i (by omega))
    · by_cases h2 : lead (left l k) N = (left l k).length
      · have hg : onesOut (left l k) (N : Nat) = (0, 0, false) := by unfold onesOut; rw [if_pos (by omega), if_neg (by simpa using h1), if_pos (by simpa using h2)]
        rw [hg]
        refine (rones_end w b rv l k (left l k).length N h (by omega) (by omega) (by omega) (fun i hi => by rw [← left_get]; exact lead_true _ N i (by omega))).mono ?_
        rintro e w' ⟨rfl, rfl⟩
        exact ⟨rfl, h.drew, (Kept.refl _ _).drew⟩
      · have hg : onesOut (left l k) (N : Nat) = (lead (left l k) N, lead (left l k) N + 1, true) := by unfold onesOut; rw [if_pos (by omega), if_neg (by simpa using h1), if_neg (by simpa using h2)]; simp
        rw [hg]
        refine (rones_nought w b rv l k (lead (left l k) N) N h (by omega) (by omega) (by rw [← left_get]; exact lead_false _ N (by omega) (by omega)) (fun i hi => by rw [← left_get]; exact lead_true _ N i hi)).mono ?_
        rintro e w' ⟨rfl, h3, h4⟩
        exact ⟨rfl, h3, h4⟩

theorem get_all (w : World) (b : Nat) (rv : Value) (l : List Nat) (k : Nat) (n : Int) (h : RdAt w b rv l k) :
    Calls Try.prog 44 #[.pointer (some ⟨b, 0, none⟩), .int .i64 n] w fun e w' => e = .returned (.tuple #[.int .i64 ((getOut (left l k) n).1 : Nat), .bool (getOut (left l k) n).2.2]) ∧ RdAt w' b rv l (k + (getOut (left l k) n).2.1) ∧ Kept (fun i => i = b) w w' := by
  have hll := left_len l k
  have hkl := h.le
  by_cases hbad : n < 0 ∨ 62 < n
  · refine (get_bad w _ n hbad).mono ?_
    rintro e w' ⟨rfl, rfl⟩
    have hg : getOut (left l k) n = (0, 0, false) := by unfold getOut; rw [if_neg (by omega)]
    rw [hg]
    exact ⟨rfl, h, Kept.refl _ _⟩
  · by_cases hfew : 8 * (l.length : Int) - k < n
    · have hg : getOut (left l k) n = (0, 0, false) := by unfold getOut; rw [if_neg (by omega)]
      rw [hg]
      refine (get_few w b rv l k n h (by omega) (by omega) hfew).mono ?_
      rintro e w' ⟨rfl, rfl⟩
      exact ⟨rfl, h.drew, (Kept.refl _ _).drew⟩
    · obtain ⟨N, rfl⟩ := Int.eq_ofNat_of_zero_le (show 0 ≤ n by omega)
      have hg : getOut (left l k) (N : Nat) = (num ((left l k).take N), N, true) := by unfold getOut; rw [if_pos (by omega)]; simp
      rw [hg]
      exact get_any w b rv l k N h (by omega) (by omega)

/-- Are all noughts? -/
def noOnes (ds : List Bool) : Bool := !ds.any id
theorem noOnes_cons (d : Bool) (ds : List Bool) : noOnes (d :: ds) = (!d && noOnes ds) := by simp [noOnes]
theorem noOnes_split (ds : List Bool) : (noOnes ds = true ∧ ∀ i, i < ds.length → ds[i]? = some false) ∨ (noOnes ds = false ∧ ∃ c : Nat, ds[c]? = some true ∧ ∀ i : Nat, i < c → ds[i]? = some false) := by
  induction ds with
  | nil => exact Or.inl ⟨rfl, fun i h => by simp at h⟩
  | cons d ds ih =>
    cases d with
    | true => exact Or.inr ⟨by simp [noOnes], 0, rfl, fun i h => by omega⟩
    | false =>
      rw [noOnes_cons]
      rcases ih with ⟨h1, h2⟩ | ⟨h1, c, h2, h3⟩
      · refine Or.inl ⟨by simpa using h1, fun i h => ?_⟩
        cases i with
        | zero => rfl
        | succ i => rw [List.getElem?_cons_succ]; exact h2 i (by simpa using h)
      · refine Or.inr ⟨by simpa using h1, c + 1, by rw [List.getElem?_cons_succ]; exact h2, fun i h => ?_⟩
        cases i with
        | zero => rfl
        | succ i => rw [List.getElem?_cons_succ]; exact h3 i (by omega)

theorem rest_all (w : World) (b : Nat) (rv : Value) (l : List Nat) (k : Nat) (h : RdAt w b rv l k) :
    Calls Try.prog 31 #[.pointer (some ⟨b, 0, none⟩)] w fun e w' => e = .returned (.bool (noOnes (left l k))) ∧ w = w' := by
  have hll := left_len l k
  have hkl := h.le
  rcases noOnes_split (left l k) with ⟨h1, h2⟩ | ⟨h1, c, h2, h3⟩
  · rw [h1]
    refine rest_true w b rv l k h (fun i hi hi2 => ?_)
    have := h2 (i - k) (by omega)
    rw [left_get, show k + (i - k) = i by omega] at this
    exact this
  · rw [h1]
    refine rest_false w b rv l k (k + c) h (by omega) (by rw [← left_get]; exact h2) (fun i hi hi2 => ?_)
    have := h3 (i - k) (by omega)
    rw [left_get, show k + (i - k) = i by omega] at this
    exact this

end Go.Proofs.Ythkfaackkcdcoaa

/- The document's own answers: Of. -/
namespace Go.Proofs.Ythkfaackkcdcoaa
set_option linter.unusedVariables false
set_option linter.unusedSimpArgs false
open Go.RowKit Dg

/-- Digits as bytes. -/
def bn (ds : List Bool) : List Nat := ds.map Bool.toNat
@[simp] theorem length_bn (ds : List Bool) : (bn ds).length = ds.length := by simp [bn]
theorem bn_snoc (ds : List Bool) (d : Bool) : u8s (bn (ds ++ [d])) = u8s (bn ds) ++ [.int .u8 (d.toNat : Int)] := by simp [u8s, bn]
theorem bn_get (ds : List Bool) (j : Nat) : (u8s (bn ds))[j]? = ds[j]?.map fun d => Value.int .u8 (d.toNat : Int) := by simp [u8s, bn]; rfl

theorem BtAt.of_owns {w : World} {base : Nat} {v : Value} {ds : List Bool} (h : w.ownsRow base 5 1 v ds.length (u8s (bn ds))) : BtAt w v ds := by
  rcases h.2 with ⟨rfl, hn⟩ | ⟨g, cap, cur, rfl, hb, hh, hn, hm, hcs, htake⟩
  · exact Or.inl ⟨rfl, List.eq_nil_of_length_eq_zero hn⟩
  · refine Or.inr ⟨g, 0, cap, rfl, (Array.getElem?_eq_some_iff.1 hh).1, hn, hm, fun j d hd => ?_⟩
    have hj : j < ds.length := (List.getElem?_eq_some_iff.1 hd).1
    have e : (u8s (bn ds))[j]? = some (.int .u8 (d.toNat : Int)) := by rw [bn_get, hd]; rfl
    rw [← htake, List.getElem?_take, if_pos (by omega)] at e
    simp only [World.cell?, hh]
    simpa using e

theorem bit_k (x k : Nat) (d : Bool) (hx : x < 256) (hd : d = ((x : Int) / 2 ^ k % 2 == 1)) : bits BinOp.and IntKind.u8 ((x : Int) / 2 ^ k) 1 = (d.toNat : Int) := by
  have e : (x : Int) / 2 ^ k = ((x / 2 ^ k : Nat) : Int) := by push_cast; rfl
  have hlt : x / 2 ^ k < 256 := Nat.lt_of_le_of_lt (Nat.div_le_self _ _) hx
  rw [e] at hd ⊢
  have e1 : (1 : Int) = ((1 : Nat) : Int) := rfl
  rw [e1, u8_and_nat _ _ hlt (by decide), nat_mask1, hd]
  have h2 : x / 2 ^ k % 2 = 0 ∨ x / 2 ^ k % 2 = 1 := by omega
  have e3 : ((x / 2 ^ k : Nat) : Int) % 2 = ((x / 2 ^ k % 2 : Nat) : Int) := by push_cast; rfl
  rw [e3]
  rcases h2 with h | h <;> rw [h] <;> rfl

theorem dig8 (x : Nat) : dig (x : Int) 8 = (List.range 8).map (digitOf x) := by
  have h : ∀ k j : Nat, 7 - j = k → ((x : Int) / 2 ^ k % 2 == 1) = digitOf x j := by
    intro k j hk
    unfold digitOf
    rw [hk]
    have e : (x : Int) / 2 ^ k % 2 = ((x / 2 ^ k % 2 : Nat) : Int) := by push_cast; rfl
    rw [e]
    have h2 : x / 2 ^ k % 2 = 0 ∨ x / 2 ^ k % 2 = 1 := by omega
    rcases h2 with h | h <;> rw [h] <;> rfl
  have e : List.range 8 = [0, 1, 2, 3, 4, 5, 6, 7] := by decide
  rw [e]
  simp only [dig, List.map_cons, List.map_nil]
  rw [h 7 0 rfl, h 6 1 rfl, h 5 2 rfl, h 4 3 rfl, h 3 4 rfl, h 2 5 rfl, h 1 6 rfl, h 0 7 rfl]

theorem unpack_snoc (l : List Nat) (x : Nat) : unpack (l ++ [x]) = unpack l ++ dig (x : Int) 8 := by rw [dig8]; simp [unpack]

theorem Try.underlyingBits : Try.prog.underlying 58 = some (.slice 5) := by kernel_rfl

/-- What of bytes a loop has laid as digits. -/
def OfAt (w wr : World) (v : Value) (ds : List Bool) : Prop := wr.ownsRow w.heap.size 5 1 v ds.length (u8s (bn ds)) ∧ Below w.heap.size w wr

end Go.Proofs.Ythkfaackkcdcoaa

/- Lend and Intact. -/
namespace Go.Proofs.Ythkfaackkcdcoaa
set_option linter.unusedVariables false
set_option linter.unusedSimpArgs false
open Go.RowKit Dg

/-- 'make([]T, n, c)': a new row of c zero elements. -/
theorem wpList_make_cap {P : Program} (w : World) {ops : Array Oper} {rest : List Oper} {o : Oper} {a : Act} {Q : Exit → Act → World → Prop}
    (hg : o.guard = none) (l c : Operand) (t : TypeId) (hop : o.op = Op.makeSlice t l c)
    (e : TypeId) (i : TypeInfo) (z : Value) (h1 : P.underlying t = some (.slice e)) (h2 : P.info? e = some i) (h3 : i.zero = some z)
    (kl kc : IntKind) (L C : Int) (n m : Nat) (hl : a.eval l = .int kl L) (hc : a.eval c = .int kc C) (hL : L = (n : Int)) (hC : C = (m : Int)) (hnm : n ≤ m) (b2 : i.bytes * m ≤ 281474976710656) (b3 : m ≤ maxLen)
    (hK : ∀ cur : Array Value, cur.size = m * i.size → wpList P ops Q rest (a.put o.dst (.slice (some ⟨w.heap.size, 0, none⟩) n m)) (w.alloc (.cells cur e))) :
    wpList P ops Q (o :: rest) a w := by
  refine wpList_plain hg fun K hK' => ?_
  have b3' : (m : Int) ≤ 9223372036854775807 := by unfold maxLen at b3; omega
  have b2' : (i.bytes : Int) * (m : Int) ≤ 281474976710656 := by
    have h : ((i.bytes * m : Nat) : Int) ≤ 281474976710656 := by omega
    rwa [Int.natCast_mul] at h
  have hrun := run_make (P := P) w t e i z h1 h2 h3 kl kc n m (by omega) (by omega) b2' b3'
  simp only [Int.toNat_natCast] at hrun
  subst hL
  subst hC
  unfold Oper.wp
  simp [execOp, hop, hl, hc, hrun, Result.andThen]
  exact hK' _ _ (hK _ (size_madeCells _ _))

/-- A row's cells, all of them. -/
def RowIs (w : World) (g : Nat) (X : List Value) : Prop := w.heap[g]? = some (.cells X.toArray 5 (0, 0))
theorem RowIs.cell {w : World} {g : Nat} {X : List Value} (h : RowIs w g X) {j : Nat} {u : Value} (hu : X[j]? = some u) : w.cell? ⟨g, j, none⟩ = some u := by
  have h' : w.heap[g]? = some (.cells X.toArray 5 (0, 0)) := h
  simp only [World.cell?, h']
  simpa using hu
theorem RowIs.frozen {w : World} {g : Nat} {X : List Value} (h : RowIs w g X) (j : Nat) : w.frozen? ⟨g, j, none⟩ = false := by
  have h' : w.heap[g]? = some (.cells X.toArray 5 (0, 0)) := h
  simp [World.frozen?, h']
theorem RowIs.set {w : World} {g : Nat} {X : List Value} (h : RowIs w g X) (j : Nat) (u : Value) : RowIs (w.setCell ⟨g, j, none⟩ u) g (X.set j u) := by
  have := heap_setCell_of (o := j) (show w.heap[g]? = some (.cells X.toArray 5 (0, 0)) from h) u
  unfold RowIs
  rw [this]
  simp
theorem RowIs.kept {w w' : World} {g : Nat} {X : List Value} {F : Nat → Prop} (h : RowIs w g X) (hk : Kept F w w') (hF : ¬ F g) : RowIs w' g X := by
  have h' : w.heap[g]? = some (.cells X.toArray 5 (0, 0)) := h
  unfold RowIs
  rw [hk.block g (Array.getElem?_eq_some_iff.1 h').1 hF]
  exact h'
theorem RowIs.below {w w' : World} {g : Nat} {X : List Value} (h : RowIs w g X) (hb : Below w.heap.size w w') : RowIs w' g X := h.kept (F := fun _ => False) (Kept.of_below hb) (fun h => h)
theorem RowIs.lt {w : World} {g : Nat} {X : List Value} (h : RowIs w g X) : g < w.heap.size := by
  have h' : w.heap[g]? = some (.cells X.toArray 5 (0, 0)) := h
  exact (Array.getElem?_eq_some_iff.1 h').1

end Go.Proofs.Ythkfaackkcdcoaa

/- BitsReads: the walk of the law. -/
namespace Go.Proofs.Ythkfaackkcdcoaa
set_option linter.unusedVariables false
set_option linter.unusedSimpArgs false
open Go.RowKit Dg

theorem get_all' (w : World) (b : Nat) (rv : Value) (l : List Nat) (k : Nat) (n : Int) (h : RdAt w b rv l k) (o : Nat × Nat × Bool) (ho : getOut (left l k) n = o) :
    Calls Try.prog 44 #[.pointer (some ⟨b, 0, none⟩), .int .i64 n] w fun e w' => e = .returned (.tuple #[.int .i64 (o.1 : Nat), .bool o.2.2]) ∧ RdAt w' b rv l (k + o.2.1) ∧ Kept (fun i => i = b) w w' := by
  subst ho; exact get_all w b rv l k n h
theorem rones_all' (w : World) (b : Nat) (rv : Value) (l : List Nat) (k : Nat) (n : Int) (h : RdAt w b rv l k) (o : Nat × Nat × Bool) (ho : onesOut (left l k) n = o) :
    Calls Try.prog 106 #[.pointer (some ⟨b, 0, none⟩), .int .i64 n] w fun e w' => e = .returned (.tuple #[.int .i64 (o.1 : Nat), .bool o.2.2]) ∧ RdAt w' b rv l (k + o.2.1) ∧ Kept (fun i => i = b) w w' := by
  subst ho; exact rones_all w b rv l k n h
theorem BtAt.form {w : World} {v : Value} {ds : List Bool} (h : BtAt w v ds) : ∃ a cap, v = .slice a ds.length cap := by
  rcases h with ⟨rfl, rfl⟩ | ⟨b, off, cap, rfl, _⟩
  · exact ⟨none, 0, rfl⟩
  · exact ⟨_, cap, rfl⟩

theorem RowIs.sl {w : World} {g : Nat} {l : List Nat} (h : RowIs w g (u8s (l ++ [85, 85, 85]))) : SlAt w (.slice (some ⟨g, 0, none⟩) l.length (l.length + 3)) l := by
  refine ⟨some ⟨g, 0, none⟩, l.length + 3, rfl, fun j x hx => ⟨g, 0, rfl, ?_⟩⟩
  rw [Nat.zero_add]
  refine h.cell ?_
  rw [u8s_get, List.getElem?_append_left (List.getElem?_eq_some_iff.1 hx).1, hx]
  rfl

theorem RdAt.drewN {w : World} {b : Nat} {rv : Value} {l : List Nat} {k : Nat} (n : Nat) (h : RdAt w b rv l k) : RdAt (w.drewN n) b rv l k := ⟨h.box, h.row, h.le, h.ne, h.byte, h.small⟩

theorem rest_all' (w : World) (b : Nat) (rv : Value) (l : List Nat) (k : Nat) (h : RdAt w b rv l k) (q : Bool) (hq : q = noOnes (left l k)) :
    Calls Try.prog 31 #[.pointer (some ⟨b, 0, none⟩)] w fun e w' => e = .returned (.bool q) ∧ w = w' := by subst hq; exact rest_all w b rv l k h
/-- What the loop keeps: a reader and the document's digits, as much taken of each. -/
structure ReadAt (w wr : World) (r g : Nat) (rvr v : Value) (l : List Nat) (k : Nat) : Prop where
  rd : RdAt wr r rvr l k
  bt : BtAt wr v (left l k)
  ap : ∀ i, v.ownBlock = some i → r < i
  row : RowIs wr g (u8s (l ++ [85, 85, 85]))
  bel : Below w.heap.size w wr

end Go.Proofs.Ythkfaackkcdcoaa

/- Get of package rice. -/
namespace Go.Proofs.Ythkfaackkcdcoaa
set_option linter.unusedVariables false
set_option linter.unusedSimpArgs false
open Go.RowKit Dg

/-- The next number: it, how many digits it takes, whether there is one. -/
def riceOut (ds : List Bool) (k : Int) : Nat × Nat × Bool :=
  if isPar k = true then
    if (onesOut ds 24).2.2 = true then
      if (onesOut ds 24).1 = 24 then
        if (getOut (ds.drop 24) 32).2.2 = true ∧ 24 ≤ (getOut (ds.drop 24) 32).1 / 2 ^ k.toNat then ((getOut (ds.drop 24) 32).1, 24 + 32, true) else (0, 0, false)
      else
        if (getOut (ds.drop ((onesOut ds 24).1 + 1)) k).2.2 = true then ((onesOut ds 24).1 * 2 ^ k.toNat + (getOut (ds.drop ((onesOut ds 24).1 + 1)) k).1, (onesOut ds 24).1 + 1 + k.toNat, true) else (0, 0, false)
    else (0, 0, false)
  else (0, 0, false)

theorem onesOut_cases (ds : List Bool) : onesOut ds 24 = (0, 0, false) ∨ onesOut ds 24 = (24, 24, true) ∨ ∃ c, c < 24 ∧ onesOut ds 24 = (c, c + 1, true) := by
  have h := lead_le ds 24
  have e : onesOut ds 24 = if lead ds 24 = 24 then (24, 24, true) else if lead ds 24 = ds.length then (0, 0, false) else (lead ds 24, lead ds 24 + 1, true) := by
    unfold onesOut
    rw [if_pos (by decide)]
    rfl
  rw [e]
  by_cases h1 : lead ds 24 = 24
  · rw [if_pos h1]; exact .inr (.inl rfl)
  · rw [if_neg h1]
    by_cases h2 : lead ds 24 = ds.length
    · rw [if_pos h2]; exact .inl rfl
    · rw [if_neg h2]; exact .inr (.inr ⟨lead ds 24, by omega, rfl⟩)

theorem getOut_cases (ds : List Bool) (n : Nat) : (getOut ds n = (0, 0, false)) ∨ ∃ v, v < 2 ^ n ∧ n ≤ ds.length ∧ getOut ds n = (v, n, true) := by
  unfold getOut
  by_cases h : 0 ≤ (n : Int) ∧ (n : Int) ≤ 62 ∧ (n : Int) ≤ ds.length
  · rw [if_pos h]
    refine .inr ⟨num (ds.take n), ?_, by omega, rfl⟩
    have := num_lt (ds.take n)
    rwa [List.length_take, Nat.min_eq_left (by omega)] at this
  · rw [if_neg h]; exact .inl rfl

theorem or_i64 (q v m : Nat) (hv : v < 2 ^ m) (hq : q < 24) (hm : m ≤ 24) (X : Int) (hX : X = ((q * 2 ^ m : Nat) : Int)) : bits BinOp.or IntKind.i64 X (v : Int) = ((q * 2 ^ m + v : Nat) : Int) := by
  have hp : 2 ^ m ≤ 2 ^ 24 := Nat.pow_le_pow_right (by decide) hm
  have hp2 : (2 : Nat) ^ 24 = 16777216 := by decide
  have hqm : q * 2 ^ m ≤ 24 * 16777216 := Nat.mul_le_mul (by omega) (by omega)
  subst hX
  show IntKind.i64.wrap ((BitVec.ofInt 64 ((q * 2 ^ m : Nat) : Int) ||| BitVec.ofInt 64 ((v : Nat) : Int)).toNat : Int) = _
  rw [BitVec.toNat_or, ofInt_u64 (q * 2 ^ m) (by omega), ofInt_u64 v (by omega), Nat.mul_comm q, ← Nat.two_pow_add_eq_or_of_lt hv]
  have hw : ∀ n : Nat, n < 9223372036854775808 → IntKind.i64.wrap ((n : Nat) : Int) = (n : Int) := by
    intro n hn
    simp [IntKind.wrap, IntKind.bits, IntKind.signed]
    omega
  exact hw _ (by rw [Nat.mul_comm]; omega)

theorem riceOut_false (ds : List Bool) (k : Int) (h : (riceOut ds k).2.2 = false) : riceOut ds k = (0, 0, false) := by
  unfold riceOut at h ⊢
  split at h
  · rename_i h1
    rw [if_pos h1]
    split at h
    · rename_i h2
      rw [if_pos h2]
      split at h
      · rename_i h3
        rw [if_pos h3]
        split at h
        · cases h
        · rename_i h4; rw [if_neg h4]
      · rename_i h3
        rw [if_neg h3]
        split at h
        · cases h
        · rename_i h4; rw [if_neg h4]
    · rename_i h2; rw [if_neg h2]
  · rename_i h1; rw [if_neg h1]

theorem wrap64_qk (q m : Nat) (hq : q < 24) (hm : m ≤ 24) : wrap64 ((q : Int) * 2 ^ m) = ((q * 2 ^ m : Nat) : Int) := by
  have hp : 2 ^ m ≤ 2 ^ 24 := Nat.pow_le_pow_right (by decide) hm
  have hp2 : (2 : Nat) ^ 24 = 16777216 := by decide
  have hqm : q * 2 ^ m ≤ 24 * 16777216 := Nat.mul_le_mul (by omega) (by omega)
  have e : ((q : Int) * 2 ^ m) = ((q * 2 ^ m : Nat) : Int) := by push_cast; rfl
  rw [e]
  generalize q * 2 ^ m = X at hqm ⊢
  unfold wrap64
  omega

set_option maxHeartbeats 2000000 in
theorem next_all (w : World) (b : Nat) (rv : Value) (l : List Nat) (at_ : Nat) (k : Nat) (h : RdAt w b rv l at_) (hk : k ≤ 24) (o : Nat × Nat × Bool) (ho : riceOut (left l at_) k = o) :
    Calls Try.prog 104 #[.pointer (some ⟨b, 0, none⟩), .int .i64 k] w fun e w' => ∃ (v : Int) (t : Nat), e = .returned (.tuple #[.int .i64 v, .bool o.2.2]) ∧ RdAt w' b rv l t ∧ Kept (fun i => i = b) w w' ∧ (o.2.2 = true → v = (o.1 : Nat) ∧ t = at_ + o.2.1) := by
  have HR : Hid (RdAt w b rv l at_) := h
  have hp : isPar (k : Int) = true := by simp [isPar]; omega
  rcases onesOut_cases (left l at_) with h1 | h1 | ⟨q, hq, h1⟩
  · have e : o = (0, 0, false) := by rw [← ho]; simp [riceOut, hp, h1]
    subst e
    have H1 : Hid (onesOut (left l at_) 24 = (0, 0, false)) := h1
    clear h hp h1 ho
    go_enter Try.func104, Try.ntmps104
    go_wp2_with fail
    refine (rones_all' w b rv l at_ 24 HR.out _ H1.out).mono ?_
    rintro e w1 ⟨rfl, hr1, hk1⟩
    have HR1 : Hid (RdAt w1 b rv l (at_ + 0)) := hr1
    have HK1 : Hid (Kept (fun i => i = b) w w1) := hk1
    clear hr1 hk1
    go_wp2
    go_ret2
    exact ⟨_, _, rfl, HR1.out, HK1.out, fun h => by cases h⟩
  · have H1 : Hid (onesOut (left l at_) 24 = (24, 24, true)) := h1
    have hd : (left l at_).drop 24 = left l (at_ + 24) := (left_drop l at_ 24).symm
    rcases getOut_cases (left l (at_ + 24)) 32 with h2 | ⟨z, hz, hz2, h2⟩
    · have h2' : getOut (left l (at_ + 24)) 32 = (0, 0, false) := h2
      have e : o = (0, 0, false) := by rw [← ho]; simp [riceOut, hp, h1, hd, h2']
      subst e
      have H2 : Hid (getOut (left l (at_ + 24)) 32 = (0, 0, false)) := h2'
      clear h hp h1 ho h2 h2' hd
      go_enter Try.func104, Try.ntmps104
      go_wp2_with fail
      refine (rones_all' w b rv l at_ 24 HR.out _ H1.out).mono ?_
      rintro e w1 ⟨rfl, hr1, hk1⟩
      have HR1 : Hid (RdAt w1 b rv l (at_ + 24)) := hr1
      have HK1 : Hid (Kept (fun i => i = b) w w1) := hk1
      clear hr1 hk1
      go_wp2_with fail
      refine (get_all' w1 b rv l (at_ + 24) 32 HR1.out _ H2.out).mono ?_
      rintro e w2 ⟨rfl, hr2, hk2⟩
      have HR2 : Hid (RdAt w2 b rv l (at_ + 24 + 0)) := hr2
      have HK2 : Hid (Kept (fun i => i = b) w w2) := HK1.out.trans hk2
      clear hr2 hk2
      go_wp2
      go_ret2
      exact ⟨_, _, rfl, HR2.out, HK2.out, fun h => by cases h⟩
    · have h2' : getOut (left l (at_ + 24)) 32 = (z, 32, true) := h2
      have hz32 : z < 4294967296 := hz
      have HO : Hid (o = if 24 ≤ z / 2 ^ k then (z, 56, true) else (0, 0, false)) := by
        show _ = _
        rw [← ho]; simp [riceOut, hp, h1, hd, h2']
      have H2 : Hid (getOut (left l (at_ + 24)) 32 = (z, 32, true)) := h2'
      obtain ⟨r, hr⟩ : ∃ r, r = isRawOf (z : Int) k := ⟨_, rfl⟩
      have HRW : Hid (r = isRawOf (z : Int) k) := hr
      have hrd : o.2.2 = r ∧ (r = true → o = (z, 56, true)) := by
        have hcast : (24 ≤ z / 2 ^ k) ↔ ((24 : Int) ≤ (z : Int) / 2 ^ k) := by
          rw [← pow_cast]
          omega
        rw [HO.out, hr]
        by_cases hc : 24 ≤ z / 2 ^ k
        · rw [if_pos hc]; exact ⟨by simp [isRawOf]; exact hcast.1 hc, fun _ => rfl⟩
        · rw [if_neg hc]
          have hcf : isRawOf (z : Int) k = false := by
            simp only [isRawOf, decide_eq_false_iff_not]
            exact fun hx => hc (hcast.2 hx)
          exact ⟨by rw [hcf], fun hx => by rw [hcf] at hx; cases hx⟩
      obtain ⟨ho1, ho2⟩ := hrd
      have HO2 : Hid (r = true → o = (z, 56, true)) := ho2
      rw [ho1]
      clear h hp h1 ho h2 h2' hd hr ho2 HO hz ho1
      go_enter Try.func104, Try.ntmps104
      go_wp2_with fail
      refine (rones_all' w b rv l at_ 24 HR.out _ H1.out).mono ?_
      rintro e w1 ⟨rfl, hr1, hk1⟩
      have HR1 : Hid (RdAt w1 b rv l (at_ + 24)) := hr1
      have HK1 : Hid (Kept (fun i => i = b) w w1) := hk1
      clear hr1 hk1
      go_wp2_with fail
      refine (get_all' w1 b rv l (at_ + 24) 32 HR1.out _ H2.out).mono ?_
      rintro e w2 ⟨rfl, hr2, hk2⟩
      have HR2 : Hid (RdAt w2 b rv l (at_ + 24 + 32)) := hr2
      have HK2 : Hid (Kept (fun i => i = b) w w2) := HK1.out.trans hk2
      clear hr2 hk2
      go_wp2_with (go_at_call 98; refine (isRaw_any z k _ (by omega) (by omega) (by omega)).mono ?_; rw [← HRW.out]; rintro e w3 ⟨rfl, rfl⟩)
      go_ret2
      exact ⟨_, _, rfl, HR2.out, HK2.out, fun h => by rw [HO2.out h]; exact ⟨rfl, rfl⟩⟩
  · have H1 : Hid (onesOut (left l at_) 24 = (q, q + 1, true)) := h1
    have hd : (left l at_).drop (q + 1) = left l (at_ + (q + 1)) := (left_drop l at_ (q + 1)).symm
    have hq24 : ((q : Int) == 24) = false := by simp; omega
    have hqne : ¬ q = 24 := by omega
    rcases getOut_cases (left l (at_ + (q + 1))) k with h2 | ⟨z, hz, hz2, h2⟩
    · have e : o = (0, 0, false) := by rw [← ho]; simp [riceOut, hp, h1, hd, h2, hqne]
      subst e
      have H2 : Hid (getOut (left l (at_ + (q + 1))) k = (0, 0, false)) := h2
      clear h hp h1 ho h2 hd
      go_enter Try.func104, Try.ntmps104
      go_wp2_with fail
      refine (rones_all' w b rv l at_ 24 HR.out _ H1.out).mono ?_
      rintro e w1 ⟨rfl, hr1, hk1⟩
      have HR1 : Hid (RdAt w1 b rv l (at_ + (q + 1))) := hr1
      have HK1 : Hid (Kept (fun i => i = b) w w1) := hk1
      clear hr1 hk1
      go_wp2_with fail
      refine (get_all' w1 b rv l (at_ + (q + 1)) k HR1.out _ H2.out).mono ?_
      rintro e w2 ⟨rfl, hr2, hk2⟩
      have HR2 : Hid (RdAt w2 b rv l (at_ + (q + 1) + 0)) := hr2
      have HK2 : Hid (Kept (fun i => i = b) w w2) := HK1.out.trans hk2
      clear hr2 hk2
      go_wp2
      go_ret2
      exact ⟨_, _, rfl, HR2.out, HK2.out, fun h => by cases h⟩
    · have e : o = (q * 2 ^ k + z, q + 1 + k, true) := by rw [← ho]; simp [riceOut, hp, h1, hd, h2, hqne]
      subst e
      have H2 : Hid (getOut (left l (at_ + (q + 1))) k = (z, k, true)) := h2
      have HZ : Hid (bits BinOp.or IntKind.i64 (wrap64 ((q : Int) * 2 ^ k)) (z : Int) = ((q * 2 ^ k + z : Nat) : Int)) := or_i64 q z k hz hq hk _ (wrap64_qk q k hq hk)
      clear h hp h1 ho h2 hd hz hz2
      go_enter Try.func104, Try.ntmps104
      go_wp2_with fail
      refine (rones_all' w b rv l at_ 24 HR.out _ H1.out).mono ?_
      rintro e w1 ⟨rfl, hr1, hk1⟩
      have HR1 : Hid (RdAt w1 b rv l (at_ + (q + 1))) := hr1
      have HK1 : Hid (Kept (fun i => i = b) w w1) := hk1
      clear hr1 hk1
      go_wp2_with fail
      refine (get_all' w1 b rv l (at_ + (q + 1)) k HR1.out _ H2.out).mono ?_
      rintro e w2 ⟨rfl, hr2, hk2⟩
      have HR2 : Hid (RdAt w2 b rv l (at_ + (q + 1) + k)) := hr2
      have HK2 : Hid (Kept (fun i => i = b) w w2) := HK1.out.trans hk2
      clear hr2 hk2
      go_wp2
      go_ret2
      exact ⟨_, _, rfl, HR2.out, HK2.out, fun h => ⟨HZ.out, by show at_ + (q + 1) + k = at_ + (q + 1 + k); omega⟩⟩

theorem rd_store {w : World} {b : Nat} {rv : Value} {l : List Nat} {k : Nat} (h : RdAt w b rv l k) (t : Nat) (ht : t ≤ 8 * l.length) : RdAt ((w.setCell ⟨b, 0, none⟩ rv).setCell ⟨b, 1, none⟩ (.int .i64 (t : Nat))) b rv l t := by
  have hk : Kept (fun i => i = b) w ((w.setCell ⟨b, 0, none⟩ rv).setCell ⟨b, 1, none⟩ (.int .i64 (t : Nat))) := (Kept.setCell (F := fun i => i = b) w ⟨b, 0, none⟩ _ rfl).trans (Kept.setCell (F := fun i => i = b) _ ⟨b, 1, none⟩ _ rfl)
  refine ⟨?_, h.row.kept hk (fun i hi e => h.ne (e ▸ hi)), ht, h.ne, h.byte, h.small⟩
  have h1 := heap_setCell_of (o := 0) h.box rv
  have h2 := heap_setCell_of (o := 1) h1 (.int .i64 (t : Nat))
  rw [h2]
  rfl

set_option maxHeartbeats 2000000 in
theorem riceGet_all (w : World) (b : Nat) (rv : Value) (l : List Nat) (at_ : Nat) (k : Int) (h : RdAt w b rv l at_) (hlt : ∀ i, rv.ownBlock = some i → i < w.heap.size) (o : Nat × Nat × Bool) (ho : riceOut (left l at_) k = o) :
    Calls Try.prog 89 #[.pointer (some ⟨b, 0, none⟩), .int .i64 k] w fun e w' => e = .returned (.tuple #[.int .i64 (o.1 : Nat), .bool o.2.2]) ∧ RdAt w' b rv l (at_ + o.2.1) ∧ Kept (fun i => i = b) w w' := by
  cases hp : isPar k with
  | false =>
    have e : o = (0, 0, false) := by rw [← ho]; simp [riceOut, hp]
    subst e
    have HP : Hid (isPar k = false) := hp
    have HR : Hid (RdAt w b rv l at_) := h
    clear hp h ho
    go_enter Try.func89, Try.ntmps89
    go_wp2_with (go_at_call 97; refine (isParameter_any k w).mono ?_; rw [HP.out]; rintro e w2 ⟨rfl, rfl⟩)
    go_ret2
    exact ⟨rfl, HR.out, Kept.refl _ _⟩
  | true =>
    obtain ⟨hk1, hk2⟩ := isPar_true hp
    obtain ⟨kk, rfl⟩ := Int.eq_ofNat_of_zero_le hk1
    obtain ⟨ao, cp, rfl, _⟩ := id h.row
    have HP : Hid (isPar (kk : Int) = true) := hp
    have HR : Hid (RdAt w b (.slice ao l.length cp) l at_) := h
    have HO : Hid (riceOut (left l at_) (kk : Int) = o) := ho
    have hb0 : w.cell? ⟨b, 0, none⟩ = some (.slice ao l.length cp) := by simp [World.cell?, h.box]
    have hb1 : w.cell? ⟨b, 1, none⟩ = some (.int .i64 (at_ : Nat)) := by simp [World.cell?, h.box]
    have hbl : b < w.heap.size := h.lt
    have HLT : Hid (∀ i, (Value.slice ao l.length cp).ownBlock = some i → i < w.heap.size) := hlt
    clear hp h ho hlt
    go_enter Try.func89, Try.ntmps89
    go_wp2_with first
      | (go_at_call 97; refine (isParameter_any kk w).mono ?_; rw [HP.out]; rintro e w2 ⟨rfl, rfl⟩)
      | fail
    have HRC : Hid (RdAt (w.alloc (.cells #[.slice ao l.length cp, .int .i64 (at_ : Nat)] 71)) w.heap.size (.slice ao l.length cp) l at_) := by
      have hr := HR.out
      refine ⟨heap_alloc_new w _, hr.row.below ((Below.refl _ _).alloc (Nat.le_refl _) _), hr.le, ?_, hr.byte, hr.small⟩
      intro e
      have := HLT.out _ e
      omega
    refine (next_all _ w.heap.size (.slice ao l.length cp) l at_ kk HRC.out (by omega) o HO.out).mono ?_
    rintro e w1 ⟨v, t, rfl, hr1, hkp1, hok⟩
    have HR1 : Hid (RdAt w1 w.heap.size (.slice ao l.length cp) l t) := hr1
    have hk1 : Kept (fun i => i = b) w w1 := (Kept.alloc (fun i => i = b) w _).trans' (hkp1.mono (G := fun i => i = w.heap.size) (fun i _ h => h)) (fun i hi h => by omega)
    have HR2 : Hid (RdAt w1 b (.slice ao l.length cp) l at_) := (HR.out.below ((Below.refl _ _).alloc (Nat.le_refl _) _)).kept hkp1 (by omega) (fun i hi => by have := HLT.out i hi; omega)
    have HK1 : Hid (Kept (fun i => i = b) w w1) := hk1
    have HF : Hid (o.2.2 = false → o = (0, 0, false)) := fun h => by have := HO.out; subst this; exact riceOut_false _ _ h
    have HOK : Hid (o.2.2 = true → v = (o.1 : Nat) ∧ t = at_ + o.2.1) := hok
    have hc0 : w1.cell? ⟨w.heap.size, 0, none⟩ = some (.slice ao l.length cp) := by simp [World.cell?, hr1.box]
    have hc1 : w1.cell? ⟨w.heap.size, 1, none⟩ = some (.int .i64 (t : Nat)) := by simp [World.cell?, hr1.box]
    have hd0 : w1.cell? ⟨b, 0, none⟩ = some (.slice ao l.length cp) := by simp [World.cell?, HR2.out.box]
    have hd1 : w1.cell? ⟨b, 1, none⟩ = some (.int .i64 (at_ : Nat)) := by simp [World.cell?, HR2.out.box]
    have hf0 : w1.frozen? ⟨b, 0, none⟩ = false := by simp [World.frozen?, HR2.out.box]
    have hf1 : w1.frozen? ⟨b, 1, none⟩ = false := by simp [World.frozen?, HR2.out.box]
    obtain ⟨g, hg⟩ : ∃ g, g = w.heap.size := ⟨_, rfl⟩
    have hgb : g ≠ b := by omega
    rw [← hg] at hc0 hc1 ⊢
    clear hb0 hb1 hg hr1 hkp1 hk1 hok
    obtain ⟨o1, o2, ok⟩ := o
    simp only at HF HOK ⊢
    cases ok with
    | false =>
      have e := HF.out rfl
      cases e
      go_wp2
      go_ret2
      exact ⟨rfl, HR2.out, HK1.out⟩
    | true =>
      obtain ⟨rfl, rfl⟩ := HOK.out rfl
      have hle := HR1.out.le
      go_wp2
      go_ret2
      have ec : ((at_ : Int) + (o2 : Int)) = ((at_ + o2 : Nat) : Int) := by push_cast; rfl
      rw [ec]
      exact ⟨rfl, rd_store HR2.out _ hle, (HK1.out.trans (Kept.setCell (F := fun i => i = b) w1 ⟨b, 0, none⟩ _ rfl)).trans (Kept.setCell (F := fun i => i = b) _ ⟨b, 1, none⟩ _ rfl)⟩

end Go.Proofs.Ythkfaackkcdcoaa

/- Numbers in a row that can be read; sizes, Best. -/
namespace Go.Proofs.Ythkfaackkcdcoaa
set_option linter.unusedVariables false
set_option linter.unusedSimpArgs false
open Go.RowKit Dg

theorem sizeOf1_bounds (z k : Int) : 0 ≤ sizeOf1 z k ∧ sizeOf1 z k ≤ 56 := by
  unfold sizeOf1
  split
  · rename_i h
    obtain ⟨h1, h2⟩ := h
    have := isNum_true h1
    have := isPar_true h2
    have := quot_le z k.toNat (by omega)
    unfold sizeIn
    split <;> omega
  · omega

/-- All sizes together. -/
def sumSize (l : List Int) (k : Int) : Int := (l.map fun z => sizeOf1 z k).sum
theorem sumSize_bounds (l : List Int) (k : Int) : 0 ≤ sumSize l k ∧ sumSize l k ≤ 56 * l.length := by
  induction l with
  | nil => simp [sumSize]
  | cons x l ih =>
    have := sizeOf1_bounds x k
    simp only [sumSize, List.map_cons, List.sum_cons, List.length_cons] at ih ⊢
    omega
theorem sumSize_take (l : List Int) (k : Int) (j : Nat) (x : Int) (h : l[j]? = some x) : sumSize (l.take (j + 1)) k = sumSize (l.take j) k + sizeOf1 x k := by
  rw [List.take_add_one, h]
  simp [sumSize]

set_option maxHeartbeats 1000000 in
theorem sizes_any (w : World) (a : Option Addr) (cap : Nat) (l : List Int) (k : Int) (h : IntsAt w a l) (hl : l.length ≤ 4096) (s : Int) (HS : Hid (s = sumSize l k)) :
    Calls Try.prog 96 #[.int .i64 k, .slice a l.length cap] w fun e w' => e = .returned (.int .i64 s) ∧ w = w' := by
  have HI : Hid (IntsAt w a l) := h
  clear h
  go_enter Try.func96, Try.ntmps96
  go_wp2
  go_loopw [5, 10] (fun s i wr => ∃ (j : Nat) (t : Int), i = .int .i64 (j : Int) ∧ s = .int .i64 t ∧ j ≤ l.length ∧ Hid (t = sumSize (l.take j) k) ∧ 0 ≤ t ∧ t ≤ 56 * j ∧ w = wr) (fun s i _ => l.length - (intOf i).toNat)
  case atStart => exact ⟨0, 0, rfl, rfl, Nat.zero_le _, rfl, by decide, by decide, rfl⟩
  case round =>
    obtain ⟨j, t, rfl, rfl, hj, ht, ht0, ht1, rfl⟩ := hrel
    by_cases hjn : j < l.length
    · obtain ⟨x, hx⟩ : ∃ x, l[j]? = some x := ⟨l[j], by simp [hjn]⟩
      obtain ⟨b, off, rfl, hc⟩ := HI.out j x hx
      obtain ⟨sz, hsz⟩ : ∃ sz, sz = sizeOf1 x k := ⟨_, rfl⟩
      have hb := sizeOf1_bounds x k
      rw [← hsz] at hb
      obtain ⟨hb1, hb2⟩ := hb
      have HSZ : Hid (sz = sizeOf1 x k) := hsz
      have HX : Hid (l[j]? = some x) := hx
      clear hx hsz HI
      go_wp2_with (go_at_call 105; refine (size_any x k _).mono ?_; rw [← HSZ.out]; rintro e w2 ⟨rfl, rfl⟩)
      go_roundw
      case rel => exact ⟨j + 1, t + sz, by go_num, rfl, by omega, by show _ = _; rw [sumSize_take l k j x HX.out, ← ht.out, ← HSZ.out], by omega, by omega, by trivial⟩
      case measure => simp [intOf]; omega
    · go_wp2
      go_ret
      have e : j = l.length := by omega
      have e2 := ht.out
      rw [e, List.take_length, ← HS.out] at e2
      exact ⟨by rw [← e2]; rfl, rfl⟩

/-- The best parameter up to j, and the size of all with it. -/
def bestTo (l : List Int) : Nat → Nat × Int
  | 0 => (0, sumSize l 0)
  | j + 1 => if sumSize l ((j + 1 : Nat) : Int) < (bestTo l j).2 then (j + 1, sumSize l ((j + 1 : Nat) : Int)) else bestTo l j
theorem bestTo_le (l : List Int) (j : Nat) : (bestTo l j).1 ≤ j := by
  induction j with
  | zero => exact Nat.le_refl _
  | succ j ih => unfold bestTo; split <;> first | omega | (simp only; omega) | (show j + 1 ≤ j + 1; omega)
theorem bestTo_size (l : List Int) (j : Nat) : (bestTo l j).2 = sumSize l ((bestTo l j).1 : Nat) := by
  induction j with
  | zero => rfl
  | succ j ih => unfold bestTo; split <;> simp [*]
theorem bestTo_least (l : List Int) (j p : Nat) (hp : p ≤ j) : (bestTo l j).2 ≤ sumSize l (p : Int) ∧ (p < (bestTo l j).1 → (bestTo l j).2 < sumSize l (p : Int)) := by
  induction j with
  | zero =>
    have : p = 0 := by omega
    subst this
    exact ⟨Int.le_refl _, fun h => by simp [bestTo] at h⟩
  | succ j ih =>
    unfold bestTo
    by_cases h : sumSize l ((j + 1 : Nat) : Int) < (bestTo l j).2
    · rw [if_pos h]
      by_cases hpj : p = j + 1
      · subst hpj; exact ⟨Int.le_refl _, fun h => by simp at h⟩
      · have := (ih (by omega)).1
        exact ⟨by simp only; omega, fun _ => by simp only; omega⟩
    · rw [if_neg h]
      by_cases hpj : p = j + 1
      · subst hpj
        have := bestTo_le l j
        exact ⟨by omega, fun h => by omega⟩
      · exact ih (by omega)
theorem bestTo_bounds (l : List Int) (j : Nat) : 0 ≤ (bestTo l j).2 ∧ (bestTo l j).2 ≤ 56 * l.length := by
  rw [bestTo_size]; exact sumSize_bounds l _

set_option maxHeartbeats 1000000 in
theorem best_bad (w : World) (a : Option Addr) (cap : Nat) (l : List Int) (h : IntsAt w a l) (hl : l.length ≤ 4096) (hbad : ∃ x ∈ l, isNum x = false) :
    Calls Try.prog 79 #[.slice a l.length cap] w fun e w' => e = .returned (.tuple #[.int .i64 0, .int .i64 0]) ∧ w = w' := by
  have HI : Hid (IntsAt w a l) := h
  have HB : Hid (∃ x ∈ l, isNum x = false) := hbad
  clear h hbad
  go_enter Try.func79, Try.ntmps79
  go_wp2
  go_loopw [10] (fun i wr => ∃ (j : Nat), i = .int .i64 (j : Int) ∧ j ≤ l.length ∧ Hid (∀ x ∈ l.take j, isNum x = true) ∧ w = wr) (fun i _ => l.length - (intOf i).toNat)
  case atStart => exact ⟨0, rfl, Nat.zero_le _, by intro x hx; simp at hx, rfl⟩
  case round =>
    obtain ⟨j, rfl, hj, ht, rfl⟩ := hrel
    by_cases hjn : j < l.length
    · obtain ⟨x, hx⟩ : ∃ x, l[j]? = some x := ⟨l[j], by simp [hjn]⟩
      obtain ⟨b, off, rfl, hc⟩ := HI.out j x hx
      have HX : Hid (l[j]? = some x) := hx
      clear hx HI
      by_cases hn : isNum x = true
      · have HN : Hid (isNum x = true) := hn
        clear hn
        go_wp2_with (go_at_call 95; refine (isNumber_any x _).mono ?_; rw [HN.out]; rintro e w2 ⟨rfl, rfl⟩)
        go_roundw
        case rel =>
          refine ⟨j + 1, by go_num, by omega, ?_, by trivial⟩
          intro y hy
          rw [List.take_add_one, HX.out] at hy
          rcases List.mem_append.1 hy with h1 | h1
          · exact ht.out y h1
          · simp at h1; subst h1; exact HN.out
        case measure => simp [intOf]; omega
      · have HN : Hid (isNum x = false) := by show _ = _; simpa using hn
        clear hn
        go_wp2_with (go_at_call 95; refine (isNumber_any x _).mono ?_; rw [HN.out]; rintro e w2 ⟨rfl, rfl⟩)
        go_ret2
        exact ⟨rfl, rfl⟩
    · exfalso
      obtain ⟨x, hx, hf⟩ := HB.out
      have := ht.out x (by rw [List.take_of_length_le (by omega)]; exact hx)
      rw [this] at hf
      cases hf

set_option maxHeartbeats 2000000 in
theorem best_all (w : World) (a : Option Addr) (cap : Nat) (l : List Int) (h : IntsAt w a l) (hl : l.length ≤ 4096) (hall : ∀ x ∈ l, isNum x = true) (bk : Nat) (bs : Int) (HR : Hid (bestTo l 24 = (bk, bs))) :
    Calls Try.prog 79 #[.slice a l.length cap] w fun e w' => e = .returned (.tuple #[.int .i64 bk, .int .i64 bs]) ∧ w = w' := by
  have HI : Hid (IntsAt w a l) := h
  have HB : Hid (∀ x ∈ l, isNum x = true) := hall
  clear h hall
  go_enter Try.func79, Try.ntmps79
  go_wp2
  go_loopw [2, 10] (fun k0 i wr => ∃ (j : Nat), k0 = .int .i64 0 ∧ i = .int .i64 (j : Int) ∧ j ≤ l.length ∧ w = wr) (fun _ i _ => l.length - (intOf i).toNat)
  case atStart => exact ⟨0, rfl, rfl, Nat.zero_le _, rfl⟩
  case round =>
    obtain ⟨j, rfl, rfl, hj, rfl⟩ := hrel
    by_cases hjn : j < l.length
    · obtain ⟨x, hx⟩ : ∃ x, l[j]? = some x := ⟨l[j], by simp [hjn]⟩
      obtain ⟨b, off, rfl, hc⟩ := HI.out j x hx
      have HN : Hid (isNum x = true) := HB.out x (List.mem_of_getElem? hx)
      clear hx HI HB
      go_wp2_with (go_at_call 95; refine (isNumber_any x _).mono ?_; rw [HN.out]; rintro e w2 ⟨rfl, rfl⟩)
      go_roundw
      case rel => exact ⟨j + 1, rfl, by go_num, by omega, by trivial⟩
      case measure => simp [intOf]; omega
    · obtain ⟨s0, hs0⟩ : ∃ s, s = sumSize l 0 := ⟨_, rfl⟩
      have HS0 : Hid (s0 = sumSize l 0) := hs0
      clear hs0
      go_wp2_with (go_at_call 96; refine (sizes_any _ a cap l 0 HI.out hl s0 HS0).mono ?_; rintro e w2 ⟨rfl, rfl⟩)
      go_loopw [2, 3, 6] (fun bk s i wr => ∃ (j p : Nat) (t : Int), i = .int .i64 ((j : Int) + 1) ∧ bk = .int .i64 (p : Int) ∧ s = .int .i64 t ∧ j ≤ 24 ∧ Hid (bestTo l j = (p, t)) ∧ w = wr) (fun bk s i _ => 25 - (intOf i).toNat)
      case atStart => exact ⟨0, 0, s0, rfl, rfl, rfl, Nat.zero_le _, by show _ = _; rw [HS0.out]; rfl, rfl⟩
      case round =>
        obtain ⟨j, p, t, rfl, rfl, rfl, hj, ht, rfl⟩ := hrel
        by_cases hj24 : j < 24
        · obtain ⟨s1, hs1⟩ : ∃ s, s = sumSize l ((j : Int) + 1) := ⟨_, rfl⟩
          have HS1 : Hid (s1 = sumSize l ((j : Int) + 1)) := hs1
          have e1 : bestTo l (j + 1) = if s1 < t then (j + 1, s1) else (p, t) := by
            have e : ((j + 1 : Nat) : Int) = (j : Int) + 1 := by omega
            rw [bestTo, ht.out, e, ← hs1]
          have E1 : Hid (bestTo l (j + 1) = if s1 < t then (j + 1, s1) else (p, t)) := e1
          clear hs1 e1
          by_cases hlt : s1 < t
          · go_wp2_with (go_at_call 96; refine (sizes_any _ a cap l _ HI.out hl s1 HS1).mono ?_; rintro e w2 ⟨rfl, rfl⟩)
            go_roundw
            case rel => exact ⟨j + 1, j + 1, s1, by go_num, by go_num, rfl, by omega, by show _ = _; rw [E1.out, if_pos hlt], by trivial⟩
            case measure => simp [intOf]; omega
          · go_wp2_with (go_at_call 96; refine (sizes_any _ a cap l _ HI.out hl s1 HS1).mono ?_; rintro e w2 ⟨rfl, rfl⟩)
            go_roundw
            case rel => exact ⟨j + 1, p, t, by go_num, rfl, rfl, by omega, by show _ = _; rw [E1.out, if_neg (by omega)], by trivial⟩
            case measure => simp [intOf]; omega
        · have e : j = 24 := by omega
          have e2 := ht.out
          rw [e, HR.out] at e2
          cases e2
          go_wp2
          go_ret2
          exact ⟨rfl, rfl⟩

end Go.Proofs.Ythkfaackkcdcoaa

/- Rows of numbers that the call owns: Copy, an append of one number. -/
namespace Go.Proofs.Ythkfaackkcdcoaa
set_option linter.unusedVariables false
set_option linter.unusedSimpArgs false
open Go.RowKit Dg

end Go.Proofs.Ythkfaackkcdcoaa

/- What is put is got again: the digits; a writer beside a row of numbers. -/
namespace Go.Proofs.Ythkfaackkcdcoaa
set_option linter.unusedVariables false
set_option linter.unusedSimpArgs false
open Go.RowKit Dg

theorem lead_replicate (q m : Nat) (ds : List Bool) (h : q < m) : lead (List.replicate q true ++ (false :: ds)) m = q := by
  induction q generalizing m with
  | zero => cases m with
    | zero => omega
    | succ m => rfl
  | succ q ih => cases m with
    | zero => omega
    | succ m => simp only [List.replicate_succ, List.cons_append, lead]; rw [ih m (by omega)]
theorem lead_full (m : Nat) (ds : List Bool) : lead (List.replicate m true ++ ds) m = m := by
  induction m with
  | zero => cases ds <;> rfl
  | succ m ih => simp only [List.replicate_succ, List.cons_append, lead]; rw [ih]

theorem getOut_app (es fs : List Bool) (n : Nat) (hn : n ≤ 62) (hl : es.length = n) : getOut (es ++ fs) n = (num es, n, true) := by
  unfold getOut
  rw [if_pos ⟨by omega, by omega, by simp; omega⟩]
  have e : ((n : Nat) : Int).toNat = n := by omega
  rw [e, List.take_left' hl]

theorem num_dig_nat (y : Int) (n : Nat) : ((num (dig y n) : Nat) : Int) = y % 2 ^ n := num_dig y n

/-- What was put with a parameter is got with it. -/
theorem riceOut_dig (y : Int) (k : Nat) (rest : List Bool) (hy0 : 0 ≤ y) (hy : y < 4294967296) (hk : k ≤ 24) : riceOut (riceDig y k ++ rest) k = (y.toNat, (riceDig y k).length, true) := by
  have hp : isPar (k : Int) = true := by simp [isPar]; omega
  have hkn : ((k : Nat) : Int).toNat = k := by omega
  have hq0 := quot_le y k hy0
  have ep : ((2 : Int) ^ k) = ((2 ^ k : Nat) : Int) := (pow_cast k).symm
  by_cases hr : 24 ≤ y / 2 ^ k
  · have e1 : riceDig y k = List.replicate 24 true ++ dig y 32 := by simp only [riceDig]; rw [if_pos hr]
    have eo : onesOut (riceDig y k ++ rest) 24 = (24, 24, true) := by
      unfold onesOut
      rw [if_pos (by decide)]
      have : lead (riceDig y k ++ rest) 24 = 24 := by rw [e1, List.append_assoc]; exact lead_full 24 _
      exact if_pos this
    have ed : (riceDig y k ++ rest).drop 24 = dig y 32 ++ rest := by rw [e1, List.append_assoc]; exact List.drop_left' (by simp)
    have eg : getOut (dig y 32 ++ rest) 32 = (num (dig y 32), 32, true) := getOut_app (dig y 32) rest 32 (by decide) (by simp)
    have en : num (dig y 32) = y.toNat := by
      have h1 := num_dig y 32
      have : y % 2 ^ 32 = y := Int.emod_eq_of_lt hy0 hy
      omega
    have hc : 24 ≤ y.toNat / 2 ^ k := by
      rw [ep] at hr
      have : y = (y.toNat : Int) := by omega
      rw [this] at hr
      exact_mod_cast hr
    have el : (riceDig y k).length = 56 := by rw [e1]; simp
    unfold riceOut
    rw [if_pos hp, eo]
    simp only [if_true, ed, eg, en, hkn, hc, and_self, el]
  · have e1 : riceDig y k = (List.replicate (y / 2 ^ k).toNat true ++ [false]) ++ dig y k := by simp only [riceDig]; rw [if_neg hr]
    obtain ⟨q, hq⟩ : ∃ q : Nat, q = (y / 2 ^ k).toNat := ⟨_, rfl⟩
    have hqi : y / 2 ^ k = (q : Int) := by omega
    rw [← hq] at e1
    have hq24 : q < 24 := by omega
    have ec : riceDig y k ++ rest = List.replicate q true ++ (false :: (dig y k ++ rest)) := by rw [e1]; simp
    have hlead : lead (riceDig y k ++ rest) 24 = q := by rw [ec]; exact lead_replicate q 24 _ hq24
    have hlen : ¬ q = (riceDig y k ++ rest).length := by rw [ec]; simp
    have eo : onesOut (riceDig y k ++ rest) 24 = (q, q + 1, true) := by
      unfold onesOut
      rw [if_pos (by decide)]
      show (if lead (riceDig y k ++ rest) 24 = 24 then _ else if lead (riceDig y k ++ rest) 24 = (riceDig y k ++ rest).length then _ else (lead (riceDig y k ++ rest) 24, lead (riceDig y k ++ rest) 24 + 1, true)) = _
      rw [hlead, if_neg (by omega), if_neg hlen]
    have ed : (riceDig y k ++ rest).drop (q + 1) = dig y k ++ rest := by
      have : riceDig y k ++ rest = (List.replicate q true ++ [false]) ++ (dig y k ++ rest) := by rw [e1]; simp
      rw [this]
      exact List.drop_left' (by simp)
    have eg : getOut (dig y k ++ rest) k = (num (dig y k), k, true) := getOut_app (dig y k) rest k (by omega) (by simp)
    have en : q * 2 ^ k + num (dig y k) = y.toNat := by
      have h1 := num_dig y k
      have h2 := Int.mul_ediv_add_emod y (2 ^ k)
      rw [hqi, ← h1, ep] at h2
      generalize num (dig y k) = N at h2 ⊢
      have h3 : ((q * 2 ^ k + N : Nat) : Int) = y := by
        rw [← h2, Nat.mul_comm]; push_cast; rfl
      omega
    have el : (riceDig y k).length = q + 1 + k := by rw [e1]; simp; omega
    unfold riceOut
    rw [if_pos hp, eo]
    simp only [if_true, ed, eg, hkn, el, en]
    rw [if_neg (by omega)]

/-- The digits of numbers, one behind the other. -/
def digs (l : List Int) (k : Nat) : List Bool := (l.map fun y => riceDig y k).flatten
theorem digs_snoc (l : List Int) (k : Nat) (y : Int) : digs (l ++ [y]) k = digs l k ++ riceDig y k := by simp [digs]
theorem digs_app (l m : List Int) (k : Nat) : digs (l ++ m) k = digs l k ++ digs m k := by simp [digs]
theorem digs_cons (y : Int) (l : List Int) (k : Nat) : digs (y :: l) k = riceDig y k ++ digs l k := by simp [digs]
theorem length_digs (l : List Int) (k : Nat) (h : ∀ x ∈ l, isNum x = true) (hk : k ≤ 24) : ((digs l k).length : Int) = sumSize l k ∧ (digs l k).length ≤ 56 * l.length := by
  induction l with
  | nil => simp [digs, sumSize]
  | cons y l ih =>
    have hy := h y (by simp)
    have ih' := ih (fun x hx => h x (by simp [hx]))
    have h1 := length_riceDig y k (isNum_true hy).1
    have h2 := length_riceDig_le y k (isNum_true hy).1 hk
    have hp : isPar (k : Int) = true := by simp [isPar]; omega
    have e : sumSize (y :: l) k = sizeIn y k + sumSize l k := by
      simp [sumSize, sizeOf1, hy, hp]
    rw [digs_cons, e]
    simp only [List.length_append, List.length_cons]
    omega

/-- What is ahead of a reader behind the first j numbers. -/
theorem left_digs (zs : List Int) (k j : Nat) (y : Int) (l : List Nat) (hl : l = pack (digs zs k)) (hj : zs[j]? = some y) :
    ∃ rest, left l (digs (zs.take j) k).length = riceDig y k ++ rest := by
  have hs : zs = zs.take j ++ (y :: zs.drop (j + 1)) := by
    have hlt : j < zs.length := (List.getElem?_eq_some_iff.1 hj).1
    have := List.take_append_drop j zs
    rw [List.drop_eq_getElem_cons hlt] at this
    have e : zs[j] = y := (List.getElem?_eq_some_iff.1 hj).2
    rw [e] at this
    exact this.symm
  obtain ⟨p, hp⟩ : ∃ p, unpack l = digs zs k ++ p := ⟨_, by rw [hl, unpack_pack]⟩
  have h2 : digs zs k = digs (zs.take j) k ++ (riceDig y k ++ digs (zs.drop (j + 1)) k) := by
    rw [← digs_cons, ← digs_app, ← hs]
  refine ⟨digs (zs.drop (j + 1)) k ++ p, ?_⟩
  unfold left
  rw [hp, h2, List.append_assoc, List.drop_left, List.append_assoc]

/-- A writer beside a row of numbers. -/
structure BackAt (W wr : World) (b : Nat) (rv v : Value) (ds : List Bool) (zs : List Int) : Prop where
  wt : WrAt wr b rv ds
  own : OwnInts wr W.heap.size v zs
  ap : ∀ i, v.ownBlock = some i → ¬ Wf b rv i
  bel : Below W.heap.size W wr

theorem BackAt.wrote {W wr w2 : World} {b : Nat} {rv v : Value} {ds ds2 : List Bool} {zs : List Int} (h : BackAt W wr b rv v ds zs) (hb : W.heap.size ≤ b) (hw : Wrote wr w2 b rv ds2) : ∃ rv2, BackAt W w2 b rv2 v ds2 zs := by
  obtain ⟨rv2, hw2, hk2, hn2⟩ := hw
  have hfoot := h.wt.foot
  refine ⟨rv2, hw2, ownsRow_other h.own hk2 h.ap, fun i hi hf => ?_, hk2.below_of h.bel (fun k hk => ?_) ?_⟩
  · rcases hf with rfl | hf
    · exact h.ap _ hi (Or.inl rfl)
    · rcases hn2 i hf with h2 | h2
      · exact h.ap i hi (Or.inr h2)
      · have := (World.ownsRow.lt h.own i hi).2; omega
  · have := (hfoot k hk).1; omega
  · have := h.wt.lt; omega

/-- 'append(z, n)' of one number that was just built, beside a writer. -/
theorem wpList_append_back {P : Program} (W w0 : World) {ops : Array Oper} {rest : List Oper} {o : Oper} {a : Act} {Q : Exit → Act → World → Prop}
    (hgd : o.guard = none) (s x : Operand) (t : TypeId) (ho : o.op = .call { callee := .builtin .append, args := #[s, x], argTypes := #[t, t] })
    (i : TypeInfo) (ht : P.underlying t = some (.slice 3)) (hi : P.info? 3 = some i) (hz : i.zero = some (.int .i64 0)) (hsize : i.size = 1) (hby : i.bytes = 8)
    (b : Nat) (rv v : Value) (ds : List Bool) (l : List Int) (hs : a.eval s = v) (hbk : BackAt W w0 b rv v ds l) (hbW : W.heap.size ≤ b) (y : Int) (hx : a.eval x = .slice (some ⟨w0.heap.size, 0, none⟩) 1 1)
    (hl : l.length ≤ 1000000)
    (h : ∀ v' w', Hid (BackAt W w' b rv v' ds (l ++ [y])) → wpList P ops Q rest (a.put o.dst v') w') : wpList P ops Q (o :: rest) a (w0.alloc (.cells #[.int .i64 y] 3)) := by
  have hsz : W.heap.size ≤ w0.heap.size := hbk.bel.size
  refine wpList_append_mine _ hgd s x t ho W.heap.size 3 i (.int .i64 0) 1 8 ht hi hz hsize hby rfl (by decide) v l.length (i64s l) hs (World.ownsRow.alloc hbk.own _) ⟨w0.heap.size, 0, none⟩ 1 1 [.int .i64 y] hx rfl ?c1 ?c2 (by decide) ?b1 ?b2 ?b3 ?_
  case c1 => intro j u hj; match j, hj with | 0, hj => simp at hj; subst hj; simp [Addr.add]
  case c2 => intro u hu; simp at hu; subst hu; rfl
  case b1 => unfold maxLen; omega
  case b2 => omega
  case b3 => simp; omega
  intro g cap w' H1 HG HN
  have hka : Kept (fun i => v.ownBlock = some i) w0 w' := (Kept.alloc _ w0 _).trans (Kept.grown HG.out)
  refine h _ w' ⟨hbk.wt.other hka (fun k hk hv => hbk.ap k hv hk), ?_, ?_, ?_⟩
  · show World.ownsRow _ _ _ _ _ _ _
    have := H1.out
    simpa [i64s] using this
  · intro i hi hf
    simp [Value.ownBlock] at hi
    subst hi
    rcases HN.out with h2 | h2
    · exact hbk.ap _ h2 hf
    · have := (hbk.wt.foot _ hf).2
      simp at h2
      omega
  · exact (hbk.bel.alloc hsz _).grown HG.out (by simp; omega) (fun k hk => (World.ownsRow.lt hbk.own k hk).1)

end Go.Proofs.Ythkfaackkcdcoaa
