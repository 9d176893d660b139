/- The texts Ref1, Ref2, Ref3, Ref4, Ref5, Reads, Rice7, Rice2, Rice3, Rice9, LevMath, IntsC, one behind the other. -/
import Derived.Test.YtejgkgnocgplbaaPart02
import Derived.Test.YtejgkgnocgplbaaPart03
import Derived.Laws.AppendOwnNone

/- The document's own answers, by their contracts: digits as bytes: Get, TakeOnes, Rest. -/
namespace Go.Proofs.Ytejgkgnocgplbaa
set_option linter.unusedVariables false
set_option linter.unusedSimpArgs false
open Go.RowKit Dg

/-- Digits, a byte each, that can be read. -/
def BtAt (w : World) (v : Value) (ds : List Bool) : Prop :=
  (v = .slice none 0 0 ∧ ds = []) ∨
  ∃ b off cap, v = .slice (some ⟨b, off, none⟩) ds.length cap ∧ b < w.heap.size ∧ ds.length ≤ cap ∧ cap ≤ maxLen ∧ ∀ j d, ds[j]? = some d → w.cell? ⟨b, off + j, none⟩ = some (.int .u8 (d.toNat : Int))

theorem BtAt.kept {w w' : World} {v : Value} {ds : List Bool} {F : Nat → Prop} (h : BtAt w v ds) (hk : Kept F w w') (hF : ∀ k, v.ownBlock = some k → ¬ F k) : BtAt w' v ds := by
  rcases h with h | ⟨b, off, cap, rfl, hb, hl, hm, hc⟩
  · exact Or.inl h
  · refine Or.inr ⟨b, off, cap, rfl, Nat.lt_of_lt_of_le hb hk.size, hl, hm, fun j d hd => ?_⟩
    rw [hk.cell hb (hF b rfl)]
    exact hc j d hd
theorem BtAt.below {w w' : World} {v : Value} {ds : List Bool} (h : BtAt w v ds) (hb : Below w.heap.size w w') : BtAt w' v ds :=
  h.kept (F := fun _ => False) (Kept.of_below hb) (fun _ _ h => h)
theorem BtAt.drew {w : World} {v : Value} {ds : List Bool} (h : BtAt w v ds) : BtAt w.drew v ds := h
theorem BtAt.drewN {w : World} {v : Value} {ds : List Bool} (n : Nat) (h : BtAt w v ds) : BtAt (w.drewN n) v ds := h
theorem BtAt.lt {w : World} {v : Value} {ds : List Bool} (h : BtAt w v ds) : ∀ k, v.ownBlock = some k → k < w.heap.size := by
  rcases h with ⟨rfl, _⟩ | ⟨b, off, cap, rfl, hb, _⟩
  · intro k hk; simp [Value.ownBlock] at hk
  · intro k hk; simp [Value.ownBlock] at hk; omega

/-- What is behind the first n digits. -/
theorem BtAt.drop {w : World} {b off cap o n : Nat} {ds : List Bool} (hb : b < w.heap.size) (hn : n ≤ ds.length) (hl : ds.length ≤ cap) (hm : cap ≤ maxLen) (hc : ∀ j d, ds[j]? = some d → w.cell? ⟨b, off + j, none⟩ = some (.int .u8 (d.toNat : Int))) (ho : cap ≠ n → o = off + n) :
    BtAt w (.slice (some ⟨b, o, none⟩) (ds.length - n) (cap - n)) (ds.drop n) := by
  refine Or.inr ⟨b, o, cap - n, by simp, hb, by simp; omega, by omega, fun j d hd => ?_⟩
  have hj : n + j < ds.length := by
    have := (List.getElem?_eq_some_iff.1 hd).1
    simp at this; omega
  rw [ho (by omega)]
  rw [List.getElem?_drop] at hd
  have := hc (n + j) d hd
  rw [Nat.add_assoc]
  exact this

/-- Get: what comes, how many are taken, whether it may be. -/
def getOut (ds : List Bool) (n : Int) : Nat × Nat × Bool :=
  if 0 ≤ n ∧ n ≤ 62 ∧ n ≤ ds.length then (num (ds.take n.toNat), n.toNat, true) else (0, 0, false)

end Go.Proofs.Ytejgkgnocgplbaa

/- The document's own answers, by their contracts: TakeOnes, Rest. -/
namespace Go.Proofs.Ytejgkgnocgplbaa
set_option linter.unusedVariables false
set_option linter.unusedSimpArgs false
open Go.RowKit Dg

/-- How many ones are ahead, m at most. -/
def lead : List Bool → Nat → Nat
  | [], _ => 0
  | _ :: _, 0 => 0
  | true :: ds, m + 1 => lead ds m + 1
  | false :: _, _ + 1 => 0
theorem lead_le (ds : List Bool) : ∀ m, lead ds m ≤ m := by
  induction ds with
  | nil => intro m; simp [lead]
  | cons d ds ih =>
    intro m
    cases m with
    | zero => simp [lead]
    | succ m => cases d with
      | true => have := ih m; simp [lead]; omega
      | false => simp [lead]
theorem lead_le_length (ds : List Bool) : ∀ m, lead ds m ≤ ds.length := by
  induction ds with
  | nil => intro m; simp [lead]
  | cons d ds ih =>
    intro m
    cases m with
    | zero => simp [lead]
    | succ m => cases d with
      | true => have := ih m; simp [lead]; omega
      | false => simp [lead]
theorem lead_true (ds : List Bool) : ∀ m i, i < lead ds m → ds[i]? = some true := by
  induction ds with
  | nil => intro m i h; simp [lead] at h
  | cons d ds ih =>
    intro m i h
    cases m with
    | zero => simp [lead] at h
    | succ m => cases d with
      | true =>
        simp only [lead] at h
        cases i with
        | zero => rfl
        | succ i => rw [List.getElem?_cons_succ]; exact ih m i (by omega)
      | false => simp [lead] at h
theorem lead_false (ds : List Bool) : ∀ m, lead ds m < m → lead ds m < ds.length → ds[lead ds m]? = some false := by
  induction ds with
  | nil => intro m _ h; simp at h
  | cons d ds ih =>
    intro m h1 h2
    cases m with
    | zero => omega
    | succ m => cases d with
      | true =>
        simp only [lead, List.length_cons] at h1 h2 ⊢
        rw [List.getElem?_cons_succ]
        exact ih m (by omega) (by omega)
      | false => simp [lead]

/-- Ones: what comes, how many are taken, whether it may be. -/
def onesOut (ds : List Bool) (most : Int) : Nat × Nat × Bool :=
  if 0 ≤ most ∧ most ≤ 1024 then
    if lead ds most.toNat = most.toNat then (most.toNat, most.toNat, true)
    else if lead ds most.toNat = ds.length then (0, 0, false)
    else (lead ds most.toNat, lead ds most.toNat + 1, true)
  else (0, 0, false)

end Go.Proofs.Ytejgkgnocgplbaa

/- A reader and the document's own digits side by side: each call by one contract for all arguments. -/
namespace Go.Proofs.Ytejgkgnocgplbaa
set_option linter.unusedVariables false
set_option linter.unusedSimpArgs false
open Go.RowKit Dg

theorem cell_one {w : World} {b off : Nat} {ds : List Bool} (hc : ∀ j d, ds[j]? = some d → w.cell? ⟨b, off + j, none⟩ = some (.int .u8 (d.toNat : Int))) {i : Nat} (h : ds[i]? = some true) : w.cell? ⟨b, off + i, none⟩ = some (.int .u8 1) := hc i true h
theorem cell_nought {w : World} {b off : Nat} {ds : List Bool} (hc : ∀ j d, ds[j]? = some d → w.cell? ⟨b, off + j, none⟩ = some (.int .u8 (d.toNat : Int))) {i : Nat} (h : ds[i]? = some false) : w.cell? ⟨b, off + i, none⟩ = some (.int .u8 0) := hc i false h

/-- What a reader has left. -/
def left (l : List Nat) (k : Nat) : List Bool := (unpack l).drop k
theorem left_get (l : List Nat) (k i : Nat) : (left l k)[i]? = (unpack l)[k + i]? := by simp [left]
theorem left_len (l : List Nat) (k : Nat) : (left l k).length = 8 * l.length - k := by simp [left]
theorem left_drop (l : List Nat) (k n : Nat) : left l (k + n) = (left l k).drop n := by simp [left]

/-- Are all noughts? -/
def noOnes (ds : List Bool) : Bool := !ds.any id
theorem noOnes_cons (d : Bool) (ds : List Bool) : noOnes (d :: ds) = (!d && noOnes ds) := by simp [noOnes]
theorem noOnes_split (ds : List Bool) : (noOnes ds = true ∧ ∀ i, i < ds.length → ds[i]? = some false) ∨ (noOnes ds = false ∧ ∃ c : Nat, ds[c]? = some true ∧ ∀ i : Nat, i < c → ds[i]? = some false) := by
  induction ds with
  | nil => exact Or.inl ⟨rfl, fun i h => by simp at h⟩
  | cons d ds ih =>
    cases d with
    | true => exact Or.inr ⟨by simp [noOnes], 0, rfl, fun i h => by omega⟩
    | false =>
      rw [noOnes_cons]
      rcases ih with ⟨h1, h2⟩ | ⟨h1, c, h2, h3⟩
      · refine Or.inl ⟨by simpa using h1, fun i h => ?_⟩
        cases i with
        | zero => rfl
        | succ i => rw [List.getElem?_cons_succ]; exact h2 i (by simpa using h)
      · refine Or.inr ⟨by simpa using h1, c + 1, by rw [List.getElem?_cons_succ]; exact h2, fun i h => ?_⟩
        cases i with
        | zero => rfl
        | succ i => rw [List.getElem?_cons_succ]; exact h3 i (by omega)

end Go.Proofs.Ytejgkgnocgplbaa

/- The document's own answers: Of. -/
namespace Go.Proofs.Ytejgkgnocgplbaa
set_option linter.unusedVariables false
set_option linter.unusedSimpArgs false
open Go.RowKit Dg

/-- Digits as bytes. -/
def bn (ds : List Bool) : List Nat := ds.map Bool.toNat
@[simp] theorem length_bn (ds : List Bool) : (bn ds).length = ds.length := by simp [bn]
theorem bn_snoc (ds : List Bool) (d : Bool) : u8s (bn (ds ++ [d])) = u8s (bn ds) ++ [.int .u8 (d.toNat : Int)] := by simp [u8s, bn]
theorem bn_get (ds : List Bool) (j : Nat) : (u8s (bn ds))[j]? = ds[j]?.map fun d => Value.int .u8 (d.toNat : Int) := by simp [u8s, bn]; rfl

theorem BtAt.of_owns {w : World} {base : Nat} {v : Value} {ds : List Bool} (h : w.ownsRow base 5 1 v ds.length (u8s (bn ds))) : BtAt w v ds := by
  rcases h.2 with ⟨rfl, hn⟩ | ⟨g, cap, cur, rfl, hb, hh, hn, hm, hcs, htake⟩
  · exact Or.inl ⟨rfl, List.eq_nil_of_length_eq_zero hn⟩
  · refine Or.inr ⟨g, 0, cap, rfl, (Array.getElem?_eq_some_iff.1 hh).1, hn, hm, fun j d hd => ?_⟩
    have hj : j < ds.length := (List.getElem?_eq_some_iff.1 hd).1
    have e : (u8s (bn ds))[j]? = some (.int .u8 (d.toNat : Int)) := by rw [bn_get, hd]; rfl
    rw [← htake, List.getElem?_take, if_pos (by omega)] at e
    simp only [World.cell?, hh]
    simpa using e

theorem bit_k (x k : Nat) (d : Bool) (hx : x < 256) (hd : d = ((x : Int) / 2 ^ k % 2 == 1)) : bits BinOp.and IntKind.u8 ((x : Int) / 2 ^ k) 1 = (d.toNat : Int) := by
  have e : (x : Int) / 2 ^ k = ((x / 2 ^ k : Nat) : Int) := by push_cast; rfl
  have hlt : x / 2 ^ k < 256 := Nat.lt_of_le_of_lt (Nat.div_le_self _ _) hx
  rw [e] at hd ⊢
  have e1 : (1 : Int) = ((1 : Nat) : Int) := rfl
  rw [e1, u8_and_nat _ _ hlt (by decide), nat_mask1, hd]
  have h2 : x / 2 ^ k % 2 = 0 ∨ x / 2 ^ k % 2 = 1 := by omega
  have e3 : ((x / 2 ^ k : Nat) : Int) % 2 = ((x / 2 ^ k % 2 : Nat) : Int) := by push_cast; rfl
  rw [e3]
  rcases h2 with h | h <;> rw [h] <;> rfl

theorem dig8 (x : Nat) : dig (x : Int) 8 = (List.range 8).map (digitOf x) := by
  have h : ∀ k j : Nat, 7 - j = k → ((x : Int) / 2 ^ k % 2 == 1) = digitOf x j := by
    intro k j hk
    unfold digitOf
    rw [hk]
    have e : (x : Int) / 2 ^ k % 2 = ((x / 2 ^ k % 2 : Nat) : Int) := by push_cast; rfl
    rw [e]
    have h2 : x / 2 ^ k % 2 = 0 ∨ x / 2 ^ k % 2 = 1 := by omega
    rcases h2 with h | h <;> rw [h] <;> rfl
  have e : List.range 8 = [0, 1, 2, 3, 4, 5, 6, 7] := by decide
  rw [e]
  simp only [dig, List.map_cons, List.map_nil]
  rw [h 7 0 rfl, h 6 1 rfl, h 5 2 rfl, h 4 3 rfl, h 3 4 rfl, h 2 5 rfl, h 1 6 rfl, h 0 7 rfl]

theorem unpack_snoc (l : List Nat) (x : Nat) : unpack (l ++ [x]) = unpack l ++ dig (x : Int) 8 := by rw [dig8]; simp [unpack]

/-- What of bytes a loop has laid as digits. -/
def OfAt (w wr : World) (v : Value) (ds : List Bool) : Prop := wr.ownsRow w.heap.size 5 1 v ds.length (u8s (bn ds)) ∧ Below w.heap.size w wr

end Go.Proofs.Ytejgkgnocgplbaa

/- Lend and Intact. -/
namespace Go.Proofs.Ytejgkgnocgplbaa
set_option linter.unusedVariables false
set_option linter.unusedSimpArgs false
open Go.RowKit Dg

/-- 'make([]T, n, c)': a new row of c zero elements. -/
theorem wpList_make_cap {P : Program} (w : World) {ops : Array Oper} {rest : List Oper} {o : Oper} {a : Act} {Q : Exit → Act → World → Prop}
    (hg : o.guard = none) (l c : Operand) (t : TypeId) (hop : o.op = Op.makeSlice t l c)
    (e : TypeId) (i : TypeInfo) (z : Value) (h1 : P.underlying t = some (.slice e)) (h2 : P.info? e = some i) (h3 : i.zero = some z)
    (kl kc : IntKind) (L C : Int) (n m : Nat) (hl : a.eval l = .int kl L) (hc : a.eval c = .int kc C) (hL : L = (n : Int)) (hC : C = (m : Int)) (hnm : n ≤ m) (b2 : i.bytes * m ≤ 281474976710656) (b3 : m ≤ maxLen)
    (hK : ∀ cur : Array Value, cur.size = m * i.size → wpList P ops Q rest (a.put o.dst (.slice (some ⟨w.heap.size, 0, none⟩) n m)) (w.alloc (.cells cur e))) :
    wpList P ops Q (o :: rest) a w := by
  refine wpList_plain hg fun K hK' => ?_
  have b3' : (m : Int) ≤ 9223372036854775807 := by unfold maxLen at b3; omega
  have b2' : (i.bytes : Int) * (m : Int) ≤ 281474976710656 := by
    have h : ((i.bytes * m : Nat) : Int) ≤ 281474976710656 := by omega
    rwa [Int.natCast_mul] at h
  have hrun := run_make (P := P) w t e i z h1 h2 h3 kl kc n m (by omega) (by omega) b2' b3'
  simp only [Int.toNat_natCast] at hrun
  subst hL
  subst hC
  unfold Oper.wp
  simp [execOp, hop, hl, hc, hrun, Result.andThen]
  exact hK' _ _ (hK _ (size_madeCells _ _))

/-- A row's cells, all of them. -/
def RowIs (w : World) (g : Nat) (X : List Value) : Prop := w.heap[g]? = some (.cells X.toArray 5 (0, 0))
theorem RowIs.cell {w : World} {g : Nat} {X : List Value} (h : RowIs w g X) {j : Nat} {u : Value} (hu : X[j]? = some u) : w.cell? ⟨g, j, none⟩ = some u := by
  have h' : w.heap[g]? = some (.cells X.toArray 5 (0, 0)) := h
  simp only [World.cell?, h']
  simpa using hu
theorem RowIs.frozen {w : World} {g : Nat} {X : List Value} (h : RowIs w g X) (j : Nat) : w.frozen? ⟨g, j, none⟩ = false := by
  have h' : w.heap[g]? = some (.cells X.toArray 5 (0, 0)) := h
  simp [World.frozen?, h']
theorem RowIs.set {w : World} {g : Nat} {X : List Value} (h : RowIs w g X) (j : Nat) (u : Value) : RowIs (w.setCell ⟨g, j, none⟩ u) g (X.set j u) := by
  have := heap_setCell_of (o := j) (show w.heap[g]? = some (.cells X.toArray 5 (0, 0)) from h) u
  unfold RowIs
  rw [this]
  simp
theorem RowIs.kept {w w' : World} {g : Nat} {X : List Value} {F : Nat → Prop} (h : RowIs w g X) (hk : Kept F w w') (hF : ¬ F g) : RowIs w' g X := by
  have h' : w.heap[g]? = some (.cells X.toArray 5 (0, 0)) := h
  unfold RowIs
  rw [hk.block g (Array.getElem?_eq_some_iff.1 h').1 hF]
  exact h'
theorem RowIs.below {w w' : World} {g : Nat} {X : List Value} (h : RowIs w g X) (hb : Below w.heap.size w w') : RowIs w' g X := h.kept (F := fun _ => False) (Kept.of_below hb) (fun h => h)
theorem RowIs.lt {w : World} {g : Nat} {X : List Value} (h : RowIs w g X) : g < w.heap.size := by
  have h' : w.heap[g]? = some (.cells X.toArray 5 (0, 0)) := h
  exact (Array.getElem?_eq_some_iff.1 h').1

end Go.Proofs.Ytejgkgnocgplbaa

/- BitsReads: the walk of the law. -/
namespace Go.Proofs.Ytejgkgnocgplbaa
set_option linter.unusedVariables false
set_option linter.unusedSimpArgs false
open Go.RowKit Dg

theorem BtAt.form {w : World} {v : Value} {ds : List Bool} (h : BtAt w v ds) : ∃ a cap, v = .slice a ds.length cap := by
  rcases h with ⟨rfl, rfl⟩ | ⟨b, off, cap, rfl, _⟩
  · exact ⟨none, 0, rfl⟩
  · exact ⟨_, cap, rfl⟩

theorem RowIs.sl {w : World} {g : Nat} {l : List Nat} (h : RowIs w g (u8s (l ++ [85, 85, 85]))) : SlAt w (.slice (some ⟨g, 0, none⟩) l.length (l.length + 3)) l := by
  refine ⟨some ⟨g, 0, none⟩, l.length + 3, rfl, fun j x hx => ⟨g, 0, rfl, ?_⟩⟩
  rw [Nat.zero_add]
  refine h.cell ?_
  rw [u8s_get, List.getElem?_append_left (List.getElem?_eq_some_iff.1 hx).1, hx]
  rfl

end Go.Proofs.Ytejgkgnocgplbaa

/- Get of package rice. -/
namespace Go.Proofs.Ytejgkgnocgplbaa
set_option linter.unusedVariables false
set_option linter.unusedSimpArgs false
open Go.RowKit Dg

/-- The next number: it, how many digits it takes, whether there is one. -/
def riceOut (ds : List Bool) (k : Int) : Nat × Nat × Bool :=
  if isPar k = true then
    if (onesOut ds 24).2.2 = true then
      if (onesOut ds 24).1 = 24 then
        if (getOut (ds.drop 24) 32).2.2 = true ∧ 24 ≤ (getOut (ds.drop 24) 32).1 / 2 ^ k.toNat then ((getOut (ds.drop 24) 32).1, 24 + 32, true) else (0, 0, false)
      else
        if (getOut (ds.drop ((onesOut ds 24).1 + 1)) k).2.2 = true then ((onesOut ds 24).1 * 2 ^ k.toNat + (getOut (ds.drop ((onesOut ds 24).1 + 1)) k).1, (onesOut ds 24).1 + 1 + k.toNat, true) else (0, 0, false)
    else (0, 0, false)
  else (0, 0, false)

theorem onesOut_cases (ds : List Bool) : onesOut ds 24 = (0, 0, false) ∨ onesOut ds 24 = (24, 24, true) ∨ ∃ c, c < 24 ∧ onesOut ds 24 = (c, c + 1, true) := by
  have h := lead_le ds 24
  have e : onesOut ds 24 = if lead ds 24 = 24 then (24, 24, true) else if lead ds 24 = ds.length then (0, 0, false) else (lead ds 24, lead ds 24 + 1, true) := by
    unfold onesOut
    rw [if_pos (by decide)]
    rfl
  rw [e]
  by_cases h1 : lead ds 24 = 24
  · rw [if_pos h1]; exact .inr (.inl rfl)
  · rw [if_neg h1]
    by_cases h2 : lead ds 24 = ds.length
    · rw [if_pos h2]; exact .inl rfl
    · rw [if_neg h2]; exact .inr (.inr ⟨lead ds 24, by omega, rfl⟩)

theorem getOut_cases (ds : List Bool) (n : Nat) : (getOut ds n = (0, 0, false)) ∨ ∃ v, v < 2 ^ n ∧ n ≤ ds.length ∧ getOut ds n = (v, n, true) := by
  unfold getOut
  by_cases h : 0 ≤ (n : Int) ∧ (n : Int) ≤ 62 ∧ (n : Int) ≤ ds.length
  · rw [if_pos h]
    refine .inr ⟨num (ds.take n), ?_, by omega, rfl⟩
    have := num_lt (ds.take n)
    rwa [List.length_take, Nat.min_eq_left (by omega)] at this
  · rw [if_neg h]; exact .inl rfl

theorem or_i64 (q v m : Nat) (hv : v < 2 ^ m) (hq : q < 24) (hm : m ≤ 24) (X : Int) (hX : X = ((q * 2 ^ m : Nat) : Int)) : bits BinOp.or IntKind.i64 X (v : Int) = ((q * 2 ^ m + v : Nat) : Int) := by
  have hp : 2 ^ m ≤ 2 ^ 24 := Nat.pow_le_pow_right (by decide) hm
  have hp2 : (2 : Nat) ^ 24 = 16777216 := by decide
  have hqm : q * 2 ^ m ≤ 24 * 16777216 := Nat.mul_le_mul (by omega) (by omega)
  subst hX
  show IntKind.i64.wrap ((BitVec.ofInt 64 ((q * 2 ^ m : Nat) : Int) ||| BitVec.ofInt 64 ((v : Nat) : Int)).toNat : Int) = _
  rw [BitVec.toNat_or, ofInt_u64 (q * 2 ^ m) (by omega), ofInt_u64 v (by omega), Nat.mul_comm q, ← Nat.two_pow_add_eq_or_of_lt hv]
  have hw : ∀ n : Nat, n < 9223372036854775808 → IntKind.i64.wrap ((n : Nat) : Int) = (n : Int) := by
    intro n hn
    simp [IntKind.wrap, IntKind.bits, IntKind.signed]
    omega
  exact hw _ (by rw [Nat.mul_comm]; omega)

theorem riceOut_false (ds : List Bool) (k : Int) (h : (riceOut ds k).2.2 = false) : riceOut ds k = (0, 0, false) := by
  unfold riceOut at h ⊢
  split at h
  · rename_i h1
    rw [if_pos h1]
    split at h
    · rename_i h2
      rw [if_pos h2]
      split at h
      · rename_i h3
        rw [if_pos h3]
        split at h
        · cases h
        · rename_i h4; rw [if_neg h4]
      · rename_i h3
        rw [if_neg h3]
        split at h
        · cases h
        · rename_i h4; rw [if_neg h4]
    · rename_i h2; rw [if_neg h2]
  · rename_i h1; rw [if_neg h1]

theorem wrap64_qk (q m : Nat) (hq : q < 24) (hm : m ≤ 24) : wrap64 ((q : Int) * 2 ^ m) = ((q * 2 ^ m : Nat) : Int) := by
  have hp : 2 ^ m ≤ 2 ^ 24 := Nat.pow_le_pow_right (by decide) hm
  have hp2 : (2 : Nat) ^ 24 = 16777216 := by decide
  have hqm : q * 2 ^ m ≤ 24 * 16777216 := Nat.mul_le_mul (by omega) (by omega)
  have e : ((q : Int) * 2 ^ m) = ((q * 2 ^ m : Nat) : Int) := by push_cast; rfl
  rw [e]
  generalize q * 2 ^ m = X at hqm ⊢
  unfold wrap64
  omega

end Go.Proofs.Ytejgkgnocgplbaa

/- Numbers in a row that can be read; sizes, Best. -/
namespace Go.Proofs.Ytejgkgnocgplbaa
set_option linter.unusedVariables false
set_option linter.unusedSimpArgs false
open Go.RowKit Dg

theorem sizeOf1_bounds (z k : Int) : 0 ≤ sizeOf1 z k ∧ sizeOf1 z k ≤ 56 := by
  unfold sizeOf1
  split
  · rename_i h
    obtain ⟨h1, h2⟩ := h
    have := isNum_true h1
    have := isPar_true h2
    have := quot_le z k.toNat (by omega)
    unfold sizeIn
    split <;> omega
  · omega

/-- All sizes together. -/
def sumSize (l : List Int) (k : Int) : Int := (l.map fun z => sizeOf1 z k).sum
theorem sumSize_bounds (l : List Int) (k : Int) : 0 ≤ sumSize l k ∧ sumSize l k ≤ 56 * l.length := by
  induction l with
  | nil => simp [sumSize]
  | cons x l ih =>
    have := sizeOf1_bounds x k
    simp only [sumSize, List.map_cons, List.sum_cons, List.length_cons] at ih ⊢
    omega
theorem sumSize_take (l : List Int) (k : Int) (j : Nat) (x : Int) (h : l[j]? = some x) : sumSize (l.take (j + 1)) k = sumSize (l.take j) k + sizeOf1 x k := by
  rw [List.take_add_one, h]
  simp [sumSize]

set_option maxHeartbeats 1000000 in
theorem sizes_any (w : World) (a : Option Addr) (cap : Nat) (l : List Int) (k : Int) (h : IntsAt w a l) (hl : l.length ≤ 4096) (s : Int) (HS : Hid (s = sumSize l k)) :
    Calls Try.prog 70 #[.int .i64 k, .slice a l.length cap] w fun e w' => e = .returned (.int .i64 s) ∧ w = w' := by
  have HI : Hid (IntsAt w a l) := h
  clear h
  go_enter Try.func70, Try.ntmps70
  go_wp2
  go_loopw [5, 10] (fun s i wr => ∃ (j : Nat) (t : Int), i = .int .i64 (j : Int) ∧ s = .int .i64 t ∧ j ≤ l.length ∧ Hid (t = sumSize (l.take j) k) ∧ 0 ≤ t ∧ t ≤ 56 * j ∧ w = wr) (fun s i _ => l.length - (intOf i).toNat)
  case atStart => exact ⟨0, 0, rfl, rfl, Nat.zero_le _, rfl, by decide, by decide, rfl⟩
  case round =>
    obtain ⟨j, t, rfl, rfl, hj, ht, ht0, ht1, rfl⟩ := hrel
    by_cases hjn : j < l.length
    · obtain ⟨x, hx⟩ : ∃ x, l[j]? = some x := ⟨l[j], by simp [hjn]⟩
      obtain ⟨b, off, rfl, hc⟩ := HI.out j x hx
      obtain ⟨sz, hsz⟩ : ∃ sz, sz = sizeOf1 x k := ⟨_, rfl⟩
      have hb := sizeOf1_bounds x k
      rw [← hsz] at hb
      obtain ⟨hb1, hb2⟩ := hb
      have HSZ : Hid (sz = sizeOf1 x k) := hsz
      have HX : Hid (l[j]? = some x) := hx
      clear hx hsz HI
      go_wp2_with (go_at_call 83; refine (size_any x k _).mono ?_; rw [← HSZ.out]; rintro e w2 ⟨rfl, rfl⟩)
      go_roundw
      case rel => exact ⟨j + 1, t + sz, by go_num, rfl, by omega, by show _ = _; rw [sumSize_take l k j x HX.out, ← ht.out, ← HSZ.out], by omega, by omega, by trivial⟩
      case measure => simp [intOf]; omega
    · go_wp2
      go_ret
      have e : j = l.length := by omega
      have e2 := ht.out
      rw [e, List.take_length, ← HS.out] at e2
      exact ⟨by rw [← e2]; rfl, rfl⟩

/-- The best parameter up to j, and the size of all with it. -/
def bestTo (l : List Int) : Nat → Nat × Int
  | 0 => (0, sumSize l 0)
  | j + 1 => if sumSize l ((j + 1 : Nat) : Int) < (bestTo l j).2 then (j + 1, sumSize l ((j + 1 : Nat) : Int)) else bestTo l j
theorem bestTo_le (l : List Int) (j : Nat) : (bestTo l j).1 ≤ j := by
  induction j with
  | zero => exact Nat.le_refl _
  | succ j ih => unfold bestTo; split <;> first | omega | (simp only; omega) | (show j + 1 ≤ j + 1; omega)
theorem bestTo_size (l : List Int) (j : Nat) : (bestTo l j).2 = sumSize l ((bestTo l j).1 : Nat) := by
  induction j with
  | zero => rfl
  | succ j ih => unfold bestTo; split <;> simp [*]
theorem bestTo_least (l : List Int) (j p : Nat) (hp : p ≤ j) : (bestTo l j).2 ≤ sumSize l (p : Int) ∧ (p < (bestTo l j).1 → (bestTo l j).2 < sumSize l (p : Int)) := by
  induction j with
  | zero =>
    have : p = 0 := by omega
    subst this
    exact ⟨Int.le_refl _, fun h => by simp [bestTo] at h⟩
  | succ j ih =>
    unfold bestTo
    by_cases h : sumSize l ((j + 1 : Nat) : Int) < (bestTo l j).2
    · rw [if_pos h]
      by_cases hpj : p = j + 1
      · subst hpj; exact ⟨Int.le_refl _, fun h => by simp at h⟩
      · have := (ih (by omega)).1
        exact ⟨by simp only; omega, fun _ => by simp only; omega⟩
    · rw [if_neg h]
      by_cases hpj : p = j + 1
      · subst hpj
        have := bestTo_le l j
        exact ⟨by omega, fun h => by omega⟩
      · exact ih (by omega)
theorem bestTo_bounds (l : List Int) (j : Nat) : 0 ≤ (bestTo l j).2 ∧ (bestTo l j).2 ≤ 56 * l.length := by
  rw [bestTo_size]; exact sumSize_bounds l _

set_option maxHeartbeats 1000000 in
theorem best_bad (w : World) (a : Option Addr) (cap : Nat) (l : List Int) (h : IntsAt w a l) (hl : l.length ≤ 4096) (hbad : ∃ x ∈ l, isNum x = false) :
    Calls Try.prog 55 #[.slice a l.length cap] w fun e w' => e = .returned (.tuple #[.int .i64 0, .int .i64 0]) ∧ w = w' := by
  have HI : Hid (IntsAt w a l) := h
  have HB : Hid (∃ x ∈ l, isNum x = false) := hbad
  clear h hbad
  go_enter Try.func55, Try.ntmps55
  go_wp2
  go_loopw [10] (fun i wr => ∃ (j : Nat), i = .int .i64 (j : Int) ∧ j ≤ l.length ∧ Hid (∀ x ∈ l.take j, isNum x = true) ∧ w = wr) (fun i _ => l.length - (intOf i).toNat)
  case atStart => exact ⟨0, rfl, Nat.zero_le _, by intro x hx; simp at hx, rfl⟩
  case round =>
    obtain ⟨j, rfl, hj, ht, rfl⟩ := hrel
    by_cases hjn : j < l.length
    · obtain ⟨x, hx⟩ : ∃ x, l[j]? = some x := ⟨l[j], by simp [hjn]⟩
      obtain ⟨b, off, rfl, hc⟩ := HI.out j x hx
      have HX : Hid (l[j]? = some x) := hx
      clear hx HI
      by_cases hn : isNum x = true
      · have HN : Hid (isNum x = true) := hn
        clear hn
        go_wp2_with (go_at_call 69; refine (isNumber_any x _).mono ?_; rw [HN.out]; rintro e w2 ⟨rfl, rfl⟩)
        go_roundw
        case rel =>
          refine ⟨j + 1, by go_num, by omega, ?_, by trivial⟩
          intro y hy
          rw [List.take_add_one, HX.out] at hy
          rcases List.mem_append.1 hy with h1 | h1
          · exact ht.out y h1
          · simp at h1; subst h1; exact HN.out
        case measure => simp [intOf]; omega
      · have HN : Hid (isNum x = false) := by show _ = _; simpa using hn
        clear hn
        go_wp2_with (go_at_call 69; refine (isNumber_any x _).mono ?_; rw [HN.out]; rintro e w2 ⟨rfl, rfl⟩)
        go_ret2
        exact ⟨rfl, rfl⟩
    · exfalso
      obtain ⟨x, hx, hf⟩ := HB.out
      have := ht.out x (by rw [List.take_of_length_le (by omega)]; exact hx)
      rw [this] at hf
      cases hf

set_option maxHeartbeats 2000000 in
theorem best_all (w : World) (a : Option Addr) (cap : Nat) (l : List Int) (h : IntsAt w a l) (hl : l.length ≤ 4096) (hall : ∀ x ∈ l, isNum x = true) (bk : Nat) (bs : Int) (HR : Hid (bestTo l 24 = (bk, bs))) :
    Calls Try.prog 55 #[.slice a l.length cap] w fun e w' => e = .returned (.tuple #[.int .i64 bk, .int .i64 bs]) ∧ w = w' := by
  have HI : Hid (IntsAt w a l) := h
  have HB : Hid (∀ x ∈ l, isNum x = true) := hall
  clear h hall
  go_enter Try.func55, Try.ntmps55
  go_wp2
  go_loopw [2, 10] (fun k0 i wr => ∃ (j : Nat), k0 = .int .i64 0 ∧ i = .int .i64 (j : Int) ∧ j ≤ l.length ∧ w = wr) (fun _ i _ => l.length - (intOf i).toNat)
  case atStart => exact ⟨0, rfl, rfl, Nat.zero_le _, rfl⟩
  case round =>
    obtain ⟨j, rfl, rfl, hj, rfl⟩ := hrel
    by_cases hjn : j < l.length
    · obtain ⟨x, hx⟩ : ∃ x, l[j]? = some x := ⟨l[j], by simp [hjn]⟩
      obtain ⟨b, off, rfl, hc⟩ := HI.out j x hx
      have HN : Hid (isNum x = true) := HB.out x (List.mem_of_getElem? hx)
      clear hx HI HB
      go_wp2_with (go_at_call 69; refine (isNumber_any x _).mono ?_; rw [HN.out]; rintro e w2 ⟨rfl, rfl⟩)
      go_roundw
      case rel => exact ⟨j + 1, rfl, by go_num, by omega, by trivial⟩
      case measure => simp [intOf]; omega
    · obtain ⟨s0, hs0⟩ : ∃ s, s = sumSize l 0 := ⟨_, rfl⟩
      have HS0 : Hid (s0 = sumSize l 0) := hs0
      clear hs0
      go_wp2_with (go_at_call 70; refine (sizes_any _ a cap l 0 HI.out hl s0 HS0).mono ?_; rintro e w2 ⟨rfl, rfl⟩)
      go_loopw [2, 3, 6] (fun bk s i wr => ∃ (j p : Nat) (t : Int), i = .int .i64 ((j : Int) + 1) ∧ bk = .int .i64 (p : Int) ∧ s = .int .i64 t ∧ j ≤ 24 ∧ Hid (bestTo l j = (p, t)) ∧ w = wr) (fun bk s i _ => 25 - (intOf i).toNat)
      case atStart => exact ⟨0, 0, s0, rfl, rfl, rfl, Nat.zero_le _, by show _ = _; rw [HS0.out]; rfl, rfl⟩
      case round =>
        obtain ⟨j, p, t, rfl, rfl, rfl, hj, ht, rfl⟩ := hrel
        by_cases hj24 : j < 24
        · obtain ⟨s1, hs1⟩ : ∃ s, s = sumSize l ((j : Int) + 1) := ⟨_, rfl⟩
          have HS1 : Hid (s1 = sumSize l ((j : Int) + 1)) := hs1
          have e1 : bestTo l (j + 1) = if s1 < t then (j + 1, s1) else (p, t) := by
            have e : ((j + 1 : Nat) : Int) = (j : Int) + 1 := by omega
            rw [bestTo, ht.out, e, ← hs1]
          have E1 : Hid (bestTo l (j + 1) = if s1 < t then (j + 1, s1) else (p, t)) := e1
          clear hs1 e1
          by_cases hlt : s1 < t
          · go_wp2_with (go_at_call 70; refine (sizes_any _ a cap l _ HI.out hl s1 HS1).mono ?_; rintro e w2 ⟨rfl, rfl⟩)
            go_roundw
            case rel => exact ⟨j + 1, j + 1, s1, by go_num, by go_num, rfl, by omega, by show _ = _; rw [E1.out, if_pos hlt], by trivial⟩
            case measure => simp [intOf]; omega
          · go_wp2_with (go_at_call 70; refine (sizes_any _ a cap l _ HI.out hl s1 HS1).mono ?_; rintro e w2 ⟨rfl, rfl⟩)
            go_roundw
            case rel => exact ⟨j + 1, p, t, by go_num, rfl, rfl, by omega, by show _ = _; rw [E1.out, if_neg (by omega)], by trivial⟩
            case measure => simp [intOf]; omega
        · have e : j = 24 := by omega
          have e2 := ht.out
          rw [e, HR.out] at e2
          cases e2
          go_wp2
          go_ret2
          exact ⟨rfl, rfl⟩

end Go.Proofs.Ytejgkgnocgplbaa

/- Rows of numbers that the call owns: Copy, an append of one number. -/
namespace Go.Proofs.Ytejgkgnocgplbaa
set_option linter.unusedVariables false
set_option linter.unusedSimpArgs false
open Go.RowKit Dg

end Go.Proofs.Ytejgkgnocgplbaa

/- What is put is got again: the digits; a writer beside a row of numbers. -/
namespace Go.Proofs.Ytejgkgnocgplbaa
set_option linter.unusedVariables false
set_option linter.unusedSimpArgs false
open Go.RowKit Dg

theorem lead_replicate (q m : Nat) (ds : List Bool) (h : q < m) : lead (List.replicate q true ++ (false :: ds)) m = q := by
  induction q generalizing m with
  | zero => cases m with
    | zero => omega
    | succ m => rfl
  | succ q ih => cases m with
    | zero => omega
    | succ m => simp only [List.replicate_succ, List.cons_append, lead]; rw [ih m (by omega)]
theorem lead_full (m : Nat) (ds : List Bool) : lead (List.replicate m true ++ ds) m = m := by
  induction m with
  | zero => cases ds <;> rfl
  | succ m ih => simp only [List.replicate_succ, List.cons_append, lead]; rw [ih]

theorem getOut_app (es fs : List Bool) (n : Nat) (hn : n ≤ 62) (hl : es.length = n) : getOut (es ++ fs) n = (num es, n, true) := by
  unfold getOut
  rw [if_pos ⟨by omega, by omega, by simp; omega⟩]
  have e : ((n : Nat) : Int).toNat = n := by omega
  rw [e, List.take_left' hl]

theorem num_dig_nat (y : Int) (n : Nat) : ((num (dig y n) : Nat) : Int) = y % 2 ^ n := num_dig y n

/-- What was put with a parameter is got with it. -/
theorem riceOut_dig (y : Int) (k : Nat) (rest : List Bool) (hy0 : 0 ≤ y) (hy : y < 4294967296) (hk : k ≤ 24) : riceOut (riceDig y k ++ rest) k = (y.toNat, (riceDig y k).length, true) := by
  have hp : isPar (k : Int) = true := by simp [isPar]; omega
  have hkn : ((k : Nat) : Int).toNat = k := by omega
  have hq0 := quot_le y k hy0
  have ep : ((2 : Int) ^ k) = ((2 ^ k : Nat) : Int) := (pow_cast k).symm
  by_cases hr : 24 ≤ y / 2 ^ k
  · have e1 : riceDig y k = List.replicate 24 true ++ dig y 32 := by simp only [riceDig]; rw [if_pos hr]
    have eo : onesOut (riceDig y k ++ rest) 24 = (24, 24, true) := by
      unfold onesOut
      rw [if_pos (by decide)]
      have : lead (riceDig y k ++ rest) 24 = 24 := by rw [e1, List.append_assoc]; exact lead_full 24 _
      exact if_pos this
    have ed : (riceDig y k ++ rest).drop 24 = dig y 32 ++ rest := by rw [e1, List.append_assoc]; exact List.drop_left' (by simp)
    have eg : getOut (dig y 32 ++ rest) 32 = (num (dig y 32), 32, true) := getOut_app (dig y 32) rest 32 (by decide) (by simp)
    have en : num (dig y 32) = y.toNat := by
      have h1 := num_dig y 32
      have : y % 2 ^ 32 = y := Int.emod_eq_of_lt hy0 hy
      omega
    have hc : 24 ≤ y.toNat / 2 ^ k := by
      rw [ep] at hr
      have : y = (y.toNat : Int) := by omega
      rw [this] at hr
      exact_mod_cast hr
    have el : (riceDig y k).length = 56 := by rw [e1]; simp
    unfold riceOut
    rw [if_pos hp, eo]
    simp only [if_true, ed, eg, en, hkn, hc, and_self, el]
  · have e1 : riceDig y k = (List.replicate (y / 2 ^ k).toNat true ++ [false]) ++ dig y k := by simp only [riceDig]; rw [if_neg hr]
    obtain ⟨q, hq⟩ : ∃ q : Nat, q = (y / 2 ^ k).toNat := ⟨_, rfl⟩
    have hqi : y / 2 ^ k = (q : Int) := by omega
    rw [← hq] at e1
    have hq24 : q < 24 := by omega
    have ec : riceDig y k ++ rest = List.replicate q true ++ (false :: (dig y k ++ rest)) := by rw [e1]; simp
    have hlead : lead (riceDig y k ++ rest) 24 = q := by rw [ec]; exact lead_replicate q 24 _ hq24
    have hlen : ¬ q = (riceDig y k ++ rest).length := by rw [ec]; simp
    have eo : onesOut (riceDig y k ++ rest) 24 = (q, q + 1, true) := by
      unfold onesOut
      rw [if_pos (by decide)]
      show (if lead (riceDig y k ++ rest) 24 = 24 then _ else if lead (riceDig y k ++ rest) 24 = (riceDig y k ++ rest).length then _ else (lead (riceDig y k ++ rest) 24, lead (riceDig y k ++ rest) 24 + 1, true)) = _
      rw [hlead, if_neg (by omega), if_neg hlen]
    have ed : (riceDig y k ++ rest).drop (q + 1) = dig y k ++ rest := by
      have : riceDig y k ++ rest = (List.replicate q true ++ [false]) ++ (dig y k ++ rest) := by rw [e1]; simp
      rw [this]
      exact List.drop_left' (by simp)
    have eg : getOut (dig y k ++ rest) k = (num (dig y k), k, true) := getOut_app (dig y k) rest k (by omega) (by simp)
    have en : q * 2 ^ k + num (dig y k) = y.toNat := by
      have h1 := num_dig y k
      have h2 := Int.mul_ediv_add_emod y (2 ^ k)
      rw [hqi, ← h1, ep] at h2
      generalize num (dig y k) = N at h2 ⊢
      have h3 : ((q * 2 ^ k + N : Nat) : Int) = y := by
        rw [← h2, Nat.mul_comm]; push_cast; rfl
      omega
    have el : (riceDig y k).length = q + 1 + k := by rw [e1]; simp; omega
    unfold riceOut
    rw [if_pos hp, eo]
    simp only [if_true, ed, eg, hkn, el, en]
    rw [if_neg (by omega)]

/-- The digits of numbers, one behind the other. -/
def digs (l : List Int) (k : Nat) : List Bool := (l.map fun y => riceDig y k).flatten
theorem digs_snoc (l : List Int) (k : Nat) (y : Int) : digs (l ++ [y]) k = digs l k ++ riceDig y k := by simp [digs]
theorem digs_app (l m : List Int) (k : Nat) : digs (l ++ m) k = digs l k ++ digs m k := by simp [digs]
theorem digs_cons (y : Int) (l : List Int) (k : Nat) : digs (y :: l) k = riceDig y k ++ digs l k := by simp [digs]
theorem length_digs (l : List Int) (k : Nat) (h : ∀ x ∈ l, isNum x = true) (hk : k ≤ 24) : ((digs l k).length : Int) = sumSize l k ∧ (digs l k).length ≤ 56 * l.length := by
  induction l with
  | nil => simp [digs, sumSize]
  | cons y l ih =>
    have hy := h y (by simp)
    have ih' := ih (fun x hx => h x (by simp [hx]))
    have h1 := length_riceDig y k (isNum_true hy).1
    have h2 := length_riceDig_le y k (isNum_true hy).1 hk
    have hp : isPar (k : Int) = true := by simp [isPar]; omega
    have e : sumSize (y :: l) k = sizeIn y k + sumSize l k := by
      simp [sumSize, sizeOf1, hy, hp]
    rw [digs_cons, e]
    simp only [List.length_append, List.length_cons]
    omega

/-- What is ahead of a reader behind the first j numbers. -/
theorem left_digs (zs : List Int) (k j : Nat) (y : Int) (l : List Nat) (hl : l = pack (digs zs k)) (hj : zs[j]? = some y) :
    ∃ rest, left l (digs (zs.take j) k).length = riceDig y k ++ rest := by
  have hs : zs = zs.take j ++ (y :: zs.drop (j + 1)) := by
    have hlt : j < zs.length := (List.getElem?_eq_some_iff.1 hj).1
    have := List.take_append_drop j zs
    rw [List.drop_eq_getElem_cons hlt] at this
    have e : zs[j] = y := (List.getElem?_eq_some_iff.1 hj).2
    rw [e] at this
    exact this.symm
  obtain ⟨p, hp⟩ : ∃ p, unpack l = digs zs k ++ p := ⟨_, by rw [hl, unpack_pack]⟩
  have h2 : digs zs k = digs (zs.take j) k ++ (riceDig y k ++ digs (zs.drop (j + 1)) k) := by
    rw [← digs_cons, ← digs_app, ← hs]
  refine ⟨digs (zs.drop (j + 1)) k ++ p, ?_⟩
  unfold left
  rw [hp, h2, List.append_assoc, List.drop_left, List.append_assoc]

/-- A writer beside a row of numbers. -/
structure BackAt (W wr : World) (b : Nat) (rv v : Value) (ds : List Bool) (zs : List Int) : Prop where
  wt : WrAt wr b rv ds
  own : OwnInts wr W.heap.size v zs
  ap : ∀ i, v.ownBlock = some i → ¬ Wf b rv i
  bel : Below W.heap.size W wr

theorem BackAt.wrote {W wr w2 : World} {b : Nat} {rv v : Value} {ds ds2 : List Bool} {zs : List Int} (h : BackAt W wr b rv v ds zs) (hb : W.heap.size ≤ b) (hw : Wrote wr w2 b rv ds2) : ∃ rv2, BackAt W w2 b rv2 v ds2 zs := by
  obtain ⟨rv2, hw2, hk2, hn2⟩ := hw
  have hfoot := h.wt.foot
  refine ⟨rv2, hw2, ownsRow_other h.own hk2 h.ap, fun i hi hf => ?_, hk2.below_of h.bel (fun k hk => ?_) ?_⟩
  · rcases hf with rfl | hf
    · exact h.ap _ hi (Or.inl rfl)
    · rcases hn2 i hf with h2 | h2
      · exact h.ap i hi (Or.inr h2)
      · have := (World.ownsRow.lt h.own i hi).2; omega
  · have := (hfoot k hk).1; omega
  · have := h.wt.lt; omega

/-- 'append(z, n)' of one number that was just built, beside a writer. -/
theorem wpList_append_back {P : Program} (W w0 : World) {ops : Array Oper} {rest : List Oper} {o : Oper} {a : Act} {Q : Exit → Act → World → Prop}
    (hgd : o.guard = none) (s x : Operand) (t : TypeId) (ho : o.op = .call { callee := .builtin .append, args := #[s, x], argTypes := #[t, t] })
    (i : TypeInfo) (ht : P.underlying t = some (.slice 3)) (hi : P.info? 3 = some i) (hz : i.zero = some (.int .i64 0)) (hsize : i.size = 1) (hby : i.bytes = 8)
    (b : Nat) (rv v : Value) (ds : List Bool) (l : List Int) (hs : a.eval s = v) (hbk : BackAt W w0 b rv v ds l) (hbW : W.heap.size ≤ b) (y : Int) (hx : a.eval x = .slice (some ⟨w0.heap.size, 0, none⟩) 1 1)
    (hl : l.length ≤ 1000000)
    (h : ∀ v' w', Hid (BackAt W w' b rv v' ds (l ++ [y])) → wpList P ops Q rest (a.put o.dst v') w') : wpList P ops Q (o :: rest) a (w0.alloc (.cells #[.int .i64 y] 3)) := by
  have hsz : W.heap.size ≤ w0.heap.size := hbk.bel.size
  refine wpList_append_mine _ hgd s x t ho W.heap.size 3 i (.int .i64 0) 1 8 ht hi hz hsize hby rfl (by decide) v l.length (i64s l) hs (World.ownsRow.alloc hbk.own _) ⟨w0.heap.size, 0, none⟩ 1 1 [.int .i64 y] hx rfl ?c1 ?c2 (by decide) ?b1 ?b2 ?b3 ?_
  case c1 => intro j u hj; match j, hj with | 0, hj => simp at hj; subst hj; simp [Addr.add]
  case c2 => intro u hu; simp at hu; subst hu; rfl
  case b1 => unfold maxLen; omega
  case b2 => omega
  case b3 => simp; omega
  intro g cap w' H1 HG HN
  have hka : Kept (fun i => v.ownBlock = some i) w0 w' := (Kept.alloc _ w0 _).trans (Kept.grown HG.out)
  refine h _ w' ⟨hbk.wt.other hka (fun k hk hv => hbk.ap k hv hk), ?_, ?_, ?_⟩
  · show World.ownsRow _ _ _ _ _ _ _
    have := H1.out
    simpa [i64s] using this
  · intro i hi hf
    simp [Value.ownBlock] at hi
    subst hi
    rcases HN.out with h2 | h2
    · exact hbk.ap _ h2 hf
    · have := (hbk.wt.foot _ hf).2
      simp at h2
      omega
  · exact (hbk.bel.alloc hsz _).grown HG.out (by simp; omega) (fun k hk => (World.ownsRow.lt hbk.own k hk).1)

end Go.Proofs.Ytejgkgnocgplbaa

/- Sums of products, numbers made small, Levinson's steps in whole numbers; no program. -/
namespace Go.Proofs.Ytejgkgnocgplbaa
set_option linter.unusedVariables false
set_option linter.unusedSimpArgs false
open Go.RowKit Dg

/-- The first products of samples that lie k apart. -/
def corr (x : List Int) (k : Nat) : Nat → Int
  | 0 => 0
  | m + 1 => corr x k m + x.getD (k + m) 0 * x.getD m 0
def autoZ (x : List Int) (k : Nat) : Int := corr x k (x.length - k)
def autoL (x : List Int) (n : Nat) : List Int := (List.range n).map (autoZ x)
@[simp] theorem length_autoL (x : List Int) (n : Nat) : (autoL x n).length = n := by simp [autoL]
theorem autoL_get (x : List Int) {n k : Nat} (h : k < n) : (autoL x n)[k]? = some (autoZ x k) := by
  unfold autoL
  rw [List.getElem?_map, List.getElem?_range h]
  rfl
theorem autoL_getD (x : List Int) {n k : Nat} (h : k < n) : (autoL x n).getD k 0 = autoZ x k := getD_of (autoL_get x h)
theorem autoL_next (x : List Int) (n : Nat) : autoL x (n + 1) = autoL x n ++ [autoZ x n] := by
  unfold autoL
  rw [List.range_succ, List.map_append]
  rfl
/-- What Auto answers: the sums, and how it ends. -/
def autoOut (x : List Int) (lags : Int) : List Int × Int :=
  if lags < 0 ∨ 12 < lags then ([], 1) else if allS x then (if 64 < x.length then ([], 4) else (autoL x (lags.toNat + 1), 0)) else ([], 8)
theorem allS.atD {l : List Int} (h : allS l) (k : Nat) : isS (l.getD k 0) := by
  by_cases hk : k < l.length
  · exact h.at hk
  · rw [List.getD, List.getElem?_eq_none (by omega)]
    exact ⟨by decide, by decide⟩
theorem mul_s {a b : Int} (ha : isS a) (hb : isS b) : -70368744177664 ≤ a * b ∧ a * b ≤ 70368744177664 := by
  obtain ⟨h1, h2⟩ := ha
  obtain ⟨h3, h4⟩ := hb
  have a1 : 0 ≤ (a + 8388608) * (b + 8388608) := Int.mul_nonneg (by omega) (by omega)
  have a2 : 0 ≤ (a + 8388608) * (8388608 - b) := Int.mul_nonneg (by omega) (by omega)
  have a3 : 0 ≤ (8388608 - a) * (b + 8388608) := Int.mul_nonneg (by omega) (by omega)
  have a4 : 0 ≤ (8388608 - a) * (8388608 - b) := Int.mul_nonneg (by omega) (by omega)
  constructor <;> grind
theorem corr_small {x : List Int} (h : allS x) (k m : Nat) : -70368744177664 * (m : Int) ≤ corr x k m ∧ corr x k m ≤ 70368744177664 * (m : Int) := by
  induction m with
  | zero => simp [corr]
  | succ m ih =>
    have := mul_s (h.atD (k + m)) (h.atD m)
    simp only [corr]
    omega
theorem sq_nn (a : Int) : 0 ≤ a * a := by
  rcases Int.le_total 0 a with h | h
  · exact Int.mul_nonneg h h
  · exact Int.mul_nonneg_of_nonpos_of_nonpos h h
theorem sq_le (a b : Int) : 2 * (a * b) ≤ a * a + b * b ∧ -(2 * (a * b)) ≤ a * a + b * b := by
  have h1 := sq_nn (a - b)
  have h2 := sq_nn (a + b)
  constructor <;> grind
theorem corr_pair (x : List Int) (k m : Nat) : 2 * corr x k m ≤ corr x 0 (k + m) - corr x 0 k + corr x 0 m ∧ -(2 * corr x k m) ≤ corr x 0 (k + m) - corr x 0 k + corr x 0 m := by
  induction m with
  | zero => simp [corr]
  | succ m ih =>
    have := sq_le (x.getD (k + m) 0) (x.getD m 0)
    have e : k + (m + 1) = (k + m) + 1 := by omega
    rw [e]
    simp only [corr, Nat.zero_add]
    omega
theorem corr_mono (x : List Int) (m d : Nat) : corr x 0 m ≤ corr x 0 (m + d) := by
  induction d with
  | zero => exact Int.le_refl _
  | succ d ih =>
    have e : m + (d + 1) = (m + d) + 1 := by omega
    rw [e]
    simp only [corr, Nat.zero_add]
    have := sq_nn (x.getD (m + d) 0)
    omega
theorem autoZ_le (x : List Int) (k : Nat) : -autoZ x 0 ≤ autoZ x k ∧ autoZ x k ≤ autoZ x 0 := by
  unfold autoZ
  by_cases hk : k ≤ x.length
  · have h1 := corr_pair x k (x.length - k)
    have h2 := corr_mono x (x.length - k) k
    have h3 := corr_mono x 0 k
    have e1 : k + (x.length - k) = x.length := by omega
    have e2 : x.length - k + k = x.length := by omega
    rw [e1] at h1
    rw [e2] at h2
    rw [Nat.zero_add] at h3
    have e3 : corr x 0 0 = 0 := rfl
    rw [Nat.sub_zero]
    omega
  · have e : x.length - k = 0 := by omega
    have h3 := corr_mono x 0 x.length
    rw [Nat.zero_add] at h3
    have e3 : corr x 0 0 = 0 := rfl
    rw [e, Nat.sub_zero]
    simp only [corr] at *
    omega
theorem autoZ_small {x : List Int} (h : allS x) (hl : x.length ≤ 64) (k : Nat) : -4503599627370496 ≤ autoZ x k ∧ autoZ x k ≤ 4503599627370496 := by
  have := corr_small h k (x.length - k)
  unfold autoZ
  omega
theorem autoZ_zero (x : List Int) : 0 ≤ autoZ x 0 := by have := autoZ_le x 0; omega

/-- Numbers that are small enough for Scaled. -/
def isB (x : Int) : Prop := -1152921504606846976 ≤ x ∧ x ≤ 1152921504606846976
instance (x : Int) : Decidable (isB x) := by unfold isB; infer_instance
def allB (l : List Int) : Prop := ∀ x ∈ l, isB x
instance (l : List Int) : Decidable (allB l) := by unfold allB; infer_instance
theorem allB.snoc {l : List Int} (h : allB l) {x : Int} (hx : isB x) : allB (l ++ [x]) := by
  intro y hy
  rcases List.mem_append.1 hy with h1 | h1
  · exact h y h1
  · simp at h1; subst h1; exact hx
theorem allB.at {l : List Int} (h : allB l) {k : Nat} (hk : k < l.length) : isB (l.getD k 0) := by
  have e : l[k]? = some l[k] := by simp [hk]
  rw [getD_of e]
  exact h _ (List.getElem_mem hk)
/-- The least power of two that brings a number below 2^30. -/
def IsShift (n : Int) (s : Nat) : Prop := n / 2 ^ s < 1073741824 ∧ ∀ t, t < s → 1073741824 ≤ n / 2 ^ t
theorem least (p : Nat → Prop) [DecidablePred p] (n : Nat) : (∃ s, s ≤ n ∧ p s) → ∃ s, s ≤ n ∧ p s ∧ ∀ t, t < s → ¬ p t := by
  induction n with
  | zero =>
    rintro ⟨s, h1, h2⟩
    have : s = 0 := by omega
    subst this
    exact ⟨0, Nat.le_refl _, h2, fun t ht => by omega⟩
  | succ n ih =>
    rintro ⟨s, h1, h2⟩
    by_cases h : ∃ s, s ≤ n ∧ p s
    · obtain ⟨s, h3, h4, h5⟩ := ih h
      exact ⟨s, by omega, h4, h5⟩
    · exact ⟨s, h1, h2, fun t ht hp => h ⟨t, by omega, hp⟩⟩
theorem shift_exists {n : Int} (h0 : 0 ≤ n) (h : n ≤ 1152921504606846976) : ∃ s, s ≤ 31 ∧ IsShift n s := by
  obtain ⟨s, h1, h2, h3⟩ := least (fun s => n / 2 ^ s < 1073741824) 31 ⟨31, Nat.le_refl _, by
    show n / 2 ^ 31 < 1073741824
    omega⟩
  exact ⟨s, h1, h2, fun t ht => by have := h3 t ht; omega⟩
theorem shift_le {n : Int} {s : Nat} (h : n ≤ 1152921504606846976) (hs : IsShift n s) : s ≤ 31 := by
  by_cases hk : s ≤ 31
  · exact hk
  · have := hs.2 31 (by omega)
    omega
theorem shift_one {n : Int} {s t : Nat} (hs : IsShift n s) (ht : IsShift n t) : s = t := by
  rcases Nat.lt_trichotomy s t with h | h | h
  · have h1 := ht.2 s h
    have h2 := hs.1
    omega
  · exact h
  · have h1 := hs.2 t h
    have h2 := ht.1
    omega
theorem shift_zero {n : Int} {s : Nat} (hs : IsShift n s) (h : n < 1073741824) : s = 0 := shift_one hs ⟨by simpa using h, fun t ht => by omega⟩
def scaleL (r : List Int) (s : Nat) : List Int := r.map fun v => v / 2 ^ s
@[simp] theorem length_scaleL (r : List Int) (s : Nat) : (scaleL r s).length = r.length := by simp [scaleL]
theorem scaleL_get {r : List Int} {s k : Nat} {x : Int} (h : r[k]? = some x) : (scaleL r s)[k]? = some (x / 2 ^ s) := by
  unfold scaleL
  rw [List.getElem?_map, h]
  rfl
/-- May there be an answer of Scaled? -/
def isR (r : List Int) : Prop := 0 < r.length ∧ 0 ≤ r.getD 0 0 ∧ allB r
instance (l : List Int) : Decidable (isR l) := by unfold isR; infer_instance
def scOut (r : List Int) (s : Nat) : List Int × Int := if isR r then (scaleL r s, (s : Int)) else ([], 0)
theorem div_pow_small {n m : Int} {s : Nat} (h0 : -n ≤ m) (h1 : m ≤ n) (hs : n / 2 ^ s < 1073741824) : -1073741824 ≤ m / 2 ^ s ∧ m / 2 ^ s < 1073741824 := by
  have hp : (0 : Int) < 2 ^ s := Int.pow_pos (by decide)
  have h2 : n < 1073741824 * 2 ^ s := (Int.ediv_lt_iff_lt_mul hp).1 hs
  constructor
  · rw [Int.le_ediv_iff_mul_le hp]
    omega
  · rw [Int.ediv_lt_iff_lt_mul hp]
    omega
theorem div_pow_any {m : Int} {s : Nat} (h : isB m) : isB (m / 2 ^ s) := by
  have hp : (1 : Int) ≤ 2 ^ s := Int.pow_pos (by decide)
  obtain ⟨h1, h2⟩ := h
  unfold isB
  constructor
  · rw [Int.le_ediv_iff_mul_le (by omega)]
    have := Int.mul_le_mul_of_nonneg_left hp (show (0 : Int) ≤ 1152921504606846976 by decide)
    omega
  · rw [← Int.lt_add_one_iff, Int.ediv_lt_iff_lt_mul (by omega)]
    have := Int.mul_le_mul_of_nonneg_left hp (show (0 : Int) ≤ 1152921504606846977 by decide)
    omega

/-- What a step divides: the first terms of it. -/
def numTo (r a : List Int) : Nat → Int
  | 0 => r.getD (a.length + 1) 0 * 4096
  | j + 1 => numTo r a j - a.getD j 0 * r.getD (a.length - j) 0
def kOf (r a : List Int) (e : Int) : Int := min (max (numTo r a a.length / e) (-4095)) 4095
theorem kOf_small (r a : List Int) (e : Int) : -4095 ≤ kOf r a e ∧ kOf r a e ≤ 4095 := by unfold kOf; omega
/-- The coefficients behind a step. -/
def turnL (a : List Int) (k : Int) : List Int := (List.range a.length).map fun j => a.getD j 0 - k * a.getD (a.length - 1 - j) 0 / 4096
@[simp] theorem length_turnL (a : List Int) (k : Int) : (turnL a k).length = a.length := by simp [turnL]
theorem turnL_get (a : List Int) (k : Int) {j : Nat} (h : j < a.length) : (turnL a k)[j]? = some (a.getD j 0 - k * a.getD (a.length - 1 - j) 0 / 4096) := by
  unfold turnL
  rw [List.getElem?_map, List.getElem?_range h]
  rfl
def eNext (k e : Int) : Int := e - k * k / 4096 * e / 4096
def lev (r : List Int) : Nat → List Int × Int
  | 0 => ([], r.getD 0 0)
  | i + 1 => (turnL (lev r i).1 (kOf r (lev r i).1 (lev r i).2) ++ [kOf r (lev r i).1 (lev r i).2], eNext (kOf r (lev r i).1 (lev r i).2) (lev r i).2)
@[simp] theorem length_lev (r : List Int) (i : Nat) : (lev r i).1.length = i := by
  induction i with
  | zero => rfl
  | succ i ih => simp [lev, ih]
theorem kk_small {k : Int} (h1 : -4095 ≤ k) (h2 : k ≤ 4095) : 0 ≤ k * k ∧ k * k ≤ 16769025 := by
  have a1 : 0 ≤ (k + 4095) * (4095 - k) := Int.mul_nonneg (by omega) (by omega)
  have a2 := sq_nn k
  constructor <;> grind
theorem qe_small {q e : Int} (h1 : 0 ≤ q) (h2 : q ≤ 4094) (he : 1 ≤ e) : 0 ≤ q * e ∧ q * e ≤ 4094 * e := by
  exact ⟨Int.mul_nonneg h1 (by omega), Int.mul_le_mul_of_nonneg_right h2 (by omega)⟩
theorem eNext_small {k e : Int} (h1 : -4095 ≤ k) (h2 : k ≤ 4095) (he : 1 ≤ e) : 1 ≤ eNext k e ∧ eNext k e ≤ e := by
  have hk := kk_small h1 h2
  have hq := qe_small (q := k * k / 4096) (e := e) (by omega) (by omega) he
  unfold eNext
  omega
theorem ka_small {k a M : Int} (h1 : -4095 ≤ k) (h2 : k ≤ 4095) (h3 : -M ≤ a) (h4 : a ≤ M) : -(4095 * M) ≤ k * a ∧ k * a ≤ 4095 * M := by
  have a1 : 0 ≤ (k + 4095) * (a + M) := Int.mul_nonneg (by omega) (by omega)
  have a2 : 0 ≤ (k + 4095) * (M - a) := Int.mul_nonneg (by omega) (by omega)
  have a3 : 0 ≤ (4095 - k) * (a + M) := Int.mul_nonneg (by omega) (by omega)
  have a4 : 0 ≤ (4095 - k) * (M - a) := Int.mul_nonneg (by omega) (by omega)
  constructor <;> grind
theorem lev_e {r : List Int} (h : 1 ≤ r.getD 0 0) (i : Nat) : 1 ≤ (lev r i).2 ∧ (lev r i).2 ≤ r.getD 0 0 := by
  induction i with
  | zero => exact ⟨h, Int.le_refl _⟩
  | succ i ih =>
    have hk := kOf_small r (lev r i).1 (lev r i).2
    have := eNext_small hk.1 hk.2 ih.1
    simp only [lev]
    omega
/-- How great coefficients can be on the way. -/
def within (a : List Int) (M : Int) : Prop := ∀ x ∈ a, -M ≤ x ∧ x ≤ M
theorem within.atD {a : List Int} {M : Int} (h : within a M) (h0 : 0 ≤ M) (k : Nat) : -M ≤ a.getD k 0 ∧ a.getD k 0 ≤ M := by
  by_cases hk : k < a.length
  · have e : a[k]? = some a[k] := by simp [hk]
    rw [getD_of e]
    exact h _ (List.getElem_mem hk)
  · rw [List.getD, List.getElem?_eq_none (by omega)]
    simp; omega
theorem turnL_within {a : List Int} {k M : Int} (h : within a M) (h0 : 4096 ≤ M) (h1 : -4095 ≤ k) (h2 : k ≤ 4095) : within (turnL a k ++ [k]) (2 * M) := by
  intro x hx
  rcases List.mem_append.1 hx with h3 | h3
  · unfold turnL at h3
    obtain ⟨j, hj, rfl⟩ := List.mem_map.1 h3
    have g1 := h.atD (by omega) j
    have g2 := h.atD (by omega) (a.length - 1 - j)
    have g3 := ka_small h1 h2 g2.1 g2.2
    omega
  · simp at h3
    subst h3
    omega
theorem lev_within (r : List Int) (i : Nat) : within (lev r i).1 (4096 * 2 ^ i) := by
  induction i with
  | zero => intro x hx; simp [lev] at hx
  | succ i ih =>
    have hk := kOf_small r (lev r i).1 (lev r i).2
    have hp : (1 : Int) ≤ 2 ^ i := Int.pow_pos (by decide)
    have := turnL_within ih (by omega) hk.1 hk.2
    simp only [lev]
    rw [show (4096 : Int) * 2 ^ (i + 1) = 2 * (4096 * 2 ^ i) by rw [Int.pow_succ]; omega]
    exact this
theorem lev_bound (r : List Int) {i : Nat} (h : i ≤ 12) : within (lev r i).1 16777216 := by
  intro x hx
  have h1 := lev_within r i x hx
  have h2 : (2 : Nat) ^ i ≤ 2 ^ 12 := Nat.pow_le_pow_right (by decide) h
  have h3 : (2 : Int) ^ i = ((2 ^ i : Nat) : Int) := by simp
  rw [h3] at h1
  omega
/-- Numbers that were scaled. -/
def allR (r : List Int) : Prop := ∀ x ∈ r, -1073741824 ≤ x ∧ x < 1073741824
theorem allR.atD {a : List Int} (h : allR a) (k : Nat) : -1073741824 ≤ a.getD k 0 ∧ a.getD k 0 < 1073741824 := by
  by_cases hk : k < a.length
  · have e : a[k]? = some a[k] := by simp [hk]
    rw [getD_of e]
    exact h _ (List.getElem_mem hk)
  · rw [List.getD, List.getElem?_eq_none (by omega)]
    simp
theorem ar_small {a b : Int} (h1 : -16777216 ≤ a) (h2 : a ≤ 16777216) (h3 : -1073741824 ≤ b) (h4 : b < 1073741824) : -18014398509481984 ≤ a * b ∧ a * b ≤ 18014398509481984 := by
  have a1 : 0 ≤ (a + 16777216) * (b + 1073741824) := Int.mul_nonneg (by omega) (by omega)
  have a2 : 0 ≤ (a + 16777216) * (1073741824 - b) := Int.mul_nonneg (by omega) (by omega)
  have a3 : 0 ≤ (16777216 - a) * (b + 1073741824) := Int.mul_nonneg (by omega) (by omega)
  have a4 : 0 ≤ (16777216 - a) * (1073741824 - b) := Int.mul_nonneg (by omega) (by omega)
  constructor <;> grind
theorem numTo_small {r a : List Int} (hr : allR r) (ha : within a 16777216) (j : Nat) : -4398046511104 - 18014398509481984 * (j : Int) ≤ numTo r a j ∧ numTo r a j ≤ 4398046511104 + 18014398509481984 * (j : Int) := by
  induction j with
  | zero =>
    have := hr.atD (a.length + 1)
    simp only [numTo]
    omega
  | succ j ih =>
    have h1 := ha.atD (by decide) j
    have h2 := hr.atD (a.length - j)
    have := ar_small h1.1 h1.2 h2.1 h2.2
    simp only [numTo]
    omega
theorem scale_R {x : List Int} {n s : Nat} (hs : IsShift (autoZ x 0) s) : allR (scaleL (autoL x n) s) := by
  intro y hy
  unfold scaleL autoL at hy
  obtain ⟨v, hv, rfl⟩ := List.mem_map.1 hy
  obtain ⟨k, -, rfl⟩ := List.mem_map.1 hv
  have := autoZ_le x k
  exact div_pow_small this.1 this.2 hs.1
theorem auto_R {x : List Int} (h : allS x) (hl : x.length ≤ 64) (n : Nat) (hn : 0 < n) : isR (autoL x n) := by
  refine ⟨by simpa using hn, ?_, ?_⟩
  · rw [autoL_getD x hn]; exact autoZ_zero x
  · intro y hy
    unfold autoL at hy
    obtain ⟨k, -, rfl⟩ := List.mem_map.1 hy
    have := autoZ_small h hl k
    unfold isB
    omega
/-- What Coefficients answers; s is the power of two of Scaled. -/
def coOut (x : List Int) (o : Int) (s : Nat) : List Int × Bool :=
  if o < 1 ∨ 12 < o ∨ (x.length : Int) ≤ o ∨ ¬ allS x ∨ 64 < x.length ∨ autoZ x 0 / 2 ^ s < 1 then ([], false)
  else if allC (lev (scaleL (autoL x (o.toNat + 1)) s) o.toNat).1 then ((lev (scaleL (autoL x (o.toNat + 1)) s) o.toNat).1, true) else ([], false)

end Go.Proofs.Ytejgkgnocgplbaa

/- Numbers a third time: x[k:]; rows of noughts that were made. -/
namespace Go.Proofs.Ytejgkgnocgplbaa
set_option linter.unusedVariables false
set_option linter.unusedSimpArgs false
open Go.RowKit Dg

/-- Where 'x[k:]' begins. -/
def lowI (a : Option Addr) (cap k : Nat) : Option Addr := if cap = k then a else a.map fun x => x.add k
theorem slice_ints_lo (a : Option Addr) (n cap k : Nat) (hk : k ≤ n) (W : World) : (Instr.sliceAt 23 (.slice a n cap) (some (.int .i64 (k : Int))) none none).run Try.prog W = .ok (.slice (lowI a cap k) (n - k) (cap - k)) W := by
  obtain ⟨i0, hi, hz0, hz1, hz2⟩ := info_parts Try.info3
  simp [Instr.sliceAt, Instr.slice, Instr.sliceBounds, Instr.sliceBound, asIntOf, run_underlying Try.underlying23, sizeOf, typeInfo, hi, hz1, hk, lowI]
theorem IntsAt.drop {w : World} {a : Option Addr} {cap : Nat} {l : List Int} (h : IntsAt w a l) (hc : l.length ≤ cap) (k : Nat) : IntsAt w (lowI a cap k) (l.drop k) := by
  intro j x hx
  rw [List.getElem?_drop] at hx
  have hj : k + j < l.length := (List.getElem?_eq_some_iff.1 hx).1
  obtain ⟨b, off, rfl, hcell⟩ := h (k + j) x hx
  refine ⟨b, off + k, ?_, ?_⟩
  · unfold lowI
    rw [if_neg (by omega)]
    simp [Addr.add]
  · rw [Nat.add_assoc]
    exact hcell
theorem madeI (n : Nat) : (madeCells (Value.int .i64 0).cells (n * 1)).toList = i64s (List.replicate n 0) := by
  apply List.ext_getElem?
  intro k
  by_cases hk : k < n
  · simp [madeCells, i64s, hk, Value.cells, Nat.mod_one]
  · rw [List.getElem?_eq_none (by simp [madeCells]; omega), List.getElem?_eq_none (by simp; omega)]
/-- A row of noughts that was just made. -/
theorem OwnInts.made {w : World} {base : Nat} {v : Value} {Z : List Int} (hZ : Z = List.replicate Z.length 0) (h : w.ownsRow base 3 1 v Z.length (madeCells (Value.int .i64 0).cells Z.length).toList) : OwnInts w base v Z := by
  show World.ownsRow _ _ _ _ _ _ _
  have e := madeI Z.length
  rw [← hZ, Nat.mul_one] at e
  rw [← e]; exact h

end Go.Proofs.Ytejgkgnocgplbaa
