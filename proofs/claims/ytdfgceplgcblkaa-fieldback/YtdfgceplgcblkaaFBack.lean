/- FieldBack: the walk of the law. -/
import Derived.Test.YtdfgceplgcblkaaFld4
namespace Go.Proofs.Ytdfgceplgcblkaa
set_option linter.unusedVariables false
set_option linter.unusedSimpArgs false
open Go.RowKit Dg

/-- Numbers of such widths as bytes, one behind the other. -/
def bytesZ (Z : List (Nat × Nat)) : List Nat := (Z.map fun p => byteN p.1 p.2).flatten
def widthsZ (Z : List (Nat × Nat)) : List Int := Z.map fun p => (p.2 : Int)
def numsZ (Z : List (Nat × Nat)) : List Int := Z.map fun p => (p.1 : Int)
theorem takeN_back (Z : List (Nat × Nat)) (h : ∀ p ∈ Z, p.2 ≤ 7 ∧ p.1 < 2 ^ (8 * p.2)) (tail : List Int) : takeN (bytesZ Z) (widthsZ Z ++ tail) = (takeN [] tail).map (numsZ Z ++ ·) := by
  induction Z with
  | nil => simp [bytesZ, widthsZ, numsZ]
  | cons p Z ih =>
    obtain ⟨h1, h2⟩ := h p (by simp)
    have e1 : bytesZ (p :: Z) = byteN p.1 p.2 ++ bytesZ Z := by simp [bytesZ]
    have e2 : widthsZ (p :: Z) ++ tail = (p.2 : Int) :: (widthsZ Z ++ tail) := by simp [widthsZ]
    have e3 : numsZ (p :: Z) = (p.1 : Int) :: numsZ Z := by simp [numsZ]
    rw [e1, e2, e3]
    simp only [takeN]
    rw [if_pos ⟨by omega, by omega, by simp; omega⟩, Int.toNat_natCast, List.drop_left' (by simp), List.take_left' (by simp), getN_byteN, Nat.mod_eq_of_lt h2, ih (fun q hq => h q (by simp [hq]))]
    cases takeN [] tail <;> simp
theorem bytesZ_lt (Z : List (Nat × Nat)) : ∀ x ∈ bytesZ Z, x < 256 := by
  intro x hx
  unfold bytesZ at hx
  obtain ⟨l, hl, hx⟩ := List.mem_flatten.1 hx
  obtain ⟨p, _, rfl⟩ := List.mem_map.1 hl
  exact byteN_lt _ _ x hx
theorem bytesZ_len (Z : List (Nat × Nat)) (h : ∀ p ∈ Z, p.2 ≤ 7) : (bytesZ Z).length ≤ 7 * Z.length := by
  induction Z with
  | nil => simp [bytesZ]
  | cons p Z ih =>
    have e1 : bytesZ (p :: Z) = byteN p.1 p.2 ++ bytesZ Z := by simp [bytesZ]
    have := h p (by simp)
    have := ih (fun q hq => h q (by simp [hq]))
    rw [e1]; simp; omega
/-- A number and its width. -/
def pairOf (a u : Int) : Nat × Nat := ((a % ((2 ^ (8 * ((u % 7).toNat + 1)) : Nat) : Int)).toNat, (u % 7).toNat + 1)
theorem pairOf_good (a u : Int) : (pairOf a u).2 ≤ 7 ∧ (pairOf a u).1 < 2 ^ (8 * (pairOf a u).2) := by
  unfold pairOf
  have hp : 0 < 2 ^ (8 * ((u % 7).toNat + 1)) := Nat.pow_pos (by decide)
  generalize hk : (u % 7).toNat + 1 = k at hp ⊢
  refine ⟨by show k ≤ 7; omega, ?_⟩
  show (a % ((2 ^ (8 * k) : Nat) : Int)).toNat < 2 ^ (8 * k)
  generalize 2 ^ (8 * k) = P at hp ⊢
  have := Int.emod_lt_of_pos a (show (0 : Int) < P by omega)
  have := Int.emod_nonneg a (show (P : Int) ≠ 0 by omega)
  omega

/-- Three rows of one's own, apart from each other. -/
structure FB (W wr : World) (bv wv nv : Value) (lb : List Nat) (lw ln : List Int) : Prop where
  b : OwnBytes wr W.heap.size bv lb
  w : OwnInts wr W.heap.size wv lw
  n : OwnInts wr W.heap.size nv ln
  bw : ∀ k, bv.ownBlock = some k → wv.ownBlock ≠ some k
  bn : ∀ k, bv.ownBlock = some k → nv.ownBlock ≠ some k
  wn : ∀ k, wv.ownBlock = some k → nv.ownBlock ≠ some k
  bel : Below W.heap.size W wr

theorem FB.below {W wr w' : World} {bv wv nv : Value} {lb : List Nat} {lw ln : List Int} (h : FB W wr bv wv nv lb lw ln) (hb : Below wr.heap.size wr w') : FB W w' bv wv nv lb lw ln :=
  ⟨ownsRow_other h.b (F := fun _ => False) (Kept.of_below hb) (fun _ _ h => h), ownsRow_other h.w (F := fun _ => False) (Kept.of_below hb) (fun _ _ h => h), ownsRow_other h.n (F := fun _ => False) (Kept.of_below hb) (fun _ _ h => h), h.bw, h.bn, h.wn, h.bel.trans (hb.mono h.bel.size)⟩
/-- The bytes laid anew. -/
theorem FB.bytes {W wr w' : World} {bv wv nv v' : Value} {lb lb' : List Nat} {lw ln : List Int} {B : Nat} (h : FB W wr bv wv nv lb lw ln) (hb : Below wr.heap.size wr w') (hB : wr.heap.size ≤ B) (ho : OwnBytes w' B v' lb') : FB W w' v' wv nv lb' lw ln := by
  have h' := h.below hb
  have hsz := h.bel.size
  refine ⟨ownsRow_base ho (by omega), h'.w, h'.n, fun k hk e => ?_, fun k hk e => ?_, h.wn, h'.bel⟩
  · have := (World.ownsRow.lt ho k hk).1; have := (World.ownsRow.lt h.w k e).2; omega
  · have := (World.ownsRow.lt ho k hk).1; have := (World.ownsRow.lt h.n k e).2; omega

/-- 'append(z, n)' of one number that was just built: all but its row is as it was. -/
theorem wpList_append_int_mine {P : Program} (w0 : World) {ops : Array Oper} {rest : List Oper} {o : Oper} {a : Act} {Q : Exit → Act → World → Prop}
    (hgd : o.guard = none) (s x : Operand) (t : TypeId) (ho : o.op = .call { callee := .builtin .append, args := #[s, x], argTypes := #[t, t] })
    (base : Nat) (i : TypeInfo) (ht : P.underlying t = some (.slice 3)) (hi : P.info? 3 = some i) (hz : i.zero = some (.int .i64 0)) (hsize : i.size = 1) (hby : i.bytes = 8)
    (v : Value) (l : List Int) (hs : a.eval s = v) (hown : OwnInts w0 base v l) (y : Int) (hx : a.eval x = .slice (some ⟨w0.heap.size, 0, none⟩) 1 1)
    (hl : l.length ≤ 1000000) (hbase : base ≤ w0.heap.size)
    (h : ∀ v' w', OwnInts w' base v' (l ++ [y]) → Kept (fun k => v.ownBlock = some k) w0 w' → (∀ k, v'.ownBlock = some k → v.ownBlock = some k ∨ w0.heap.size ≤ k) → wpList P ops Q rest (a.put o.dst v') w') : wpList P ops Q (o :: rest) a (w0.alloc (.cells #[.int .i64 y] 3)) := by
  refine wpList_append_mine _ hgd s x t ho base 3 i (.int .i64 0) 1 8 ht hi hz hsize hby rfl (by decide) v l.length (i64s l) hs (World.ownsRow.alloc hown _) ⟨w0.heap.size, 0, none⟩ 1 1 [.int .i64 y] hx rfl ?c1 ?c2 (by decide) ?b1 ?b2 ?b3 ?_
  case c1 => intro j u hj; match j, hj with | 0, hj => simp at hj; subst hj; simp [Addr.add]
  case c2 => intro u hu; simp at hu; subst hu; rfl
  case b1 => unfold maxLen; omega
  case b2 => omega
  case b3 => simp; omega
  intro g cap w' H1 HG HN
  refine h _ w' ?_ ((Kept.alloc _ w0 _).trans (Kept.grown HG.out)) ?_
  · show World.ownsRow _ _ _ _ _ _ _
    have := H1.out
    simpa [i64s] using this
  · intro k hk
    simp [Value.ownBlock] at hk
    subst hk
    rcases HN.out with h2 | h2
    · exact .inl h2
    · simp at h2
      exact .inr (by omega)

theorem wpList_append_ws {P : Program} (W w0 : World) {ops : Array Oper} {rest : List Oper} {o : Oper} {a : Act} {Q : Exit → Act → World → Prop}
    (hgd : o.guard = none) (s x : Operand) (t : TypeId) (ho : o.op = .call { callee := .builtin .append, args := #[s, x], argTypes := #[t, t] })
    (i : TypeInfo) (ht : P.underlying t = some (.slice 3)) (hi : P.info? 3 = some i) (hz : i.zero = some (.int .i64 0)) (hsize : i.size = 1) (hby : i.bytes = 8)
    (bv wv nv : Value) (lb : List Nat) (lw ln : List Int) (hs : a.eval s = wv) (hf : FB W w0 bv wv nv lb lw ln) (y : Int) (hx : a.eval x = .slice (some ⟨w0.heap.size, 0, none⟩) 1 1)
    (hl : lw.length ≤ 1000000)
    (h : ∀ v' w', Hid (FB W w' bv v' nv lb (lw ++ [y]) ln) → wpList P ops Q rest (a.put o.dst v') w') : wpList P ops Q (o :: rest) a (w0.alloc (.cells #[.int .i64 y] 3)) := by
  refine wpList_append_int_mine w0 hgd s x t ho W.heap.size i ht hi hz hsize hby wv lw hs hf.w y hx hl hf.bel.size ?_
  intro v' w' h1 h2 h3
  refine h v' w' ⟨ownsRow_other hf.b h2 (fun k hk => hf.bw k hk), h1, ownsRow_other hf.n h2 (fun k hk e => hf.wn k e hk), fun k hk e => ?_, hf.bn, fun k hk e => ?_, h2.below_of hf.bel (fun k hk => (World.ownsRow.lt hf.w k hk).1) hf.bel.size⟩
  · rcases h3 k e with h4 | h4
    · exact hf.bw k hk h4
    · have := (World.ownsRow.lt hf.b k hk).2; omega
  · rcases h3 k hk with h4 | h4
    · exact hf.wn k h4 e
    · have := (World.ownsRow.lt hf.n k e).2; omega
theorem wpList_append_ns {P : Program} (W w0 : World) {ops : Array Oper} {rest : List Oper} {o : Oper} {a : Act} {Q : Exit → Act → World → Prop}
    (hgd : o.guard = none) (s x : Operand) (t : TypeId) (ho : o.op = .call { callee := .builtin .append, args := #[s, x], argTypes := #[t, t] })
    (i : TypeInfo) (ht : P.underlying t = some (.slice 3)) (hi : P.info? 3 = some i) (hz : i.zero = some (.int .i64 0)) (hsize : i.size = 1) (hby : i.bytes = 8)
    (bv wv nv : Value) (lb : List Nat) (lw ln : List Int) (hs : a.eval s = nv) (hf : FB W w0 bv wv nv lb lw ln) (y : Int) (hx : a.eval x = .slice (some ⟨w0.heap.size, 0, none⟩) 1 1)
    (hl : ln.length ≤ 1000000)
    (h : ∀ v' w', Hid (FB W w' bv wv v' lb lw (ln ++ [y])) → wpList P ops Q rest (a.put o.dst v') w') : wpList P ops Q (o :: rest) a (w0.alloc (.cells #[.int .i64 y] 3)) := by
  refine wpList_append_int_mine w0 hgd s x t ho W.heap.size i ht hi hz hsize hby nv ln hs hf.n y hx hl hf.bel.size ?_
  intro v' w' h1 h2 h3
  refine h v' w' ⟨ownsRow_other hf.b h2 (fun k hk => hf.bn k hk), ownsRow_other hf.w h2 (fun k hk => hf.wn k hk), h1, hf.bw, fun k hk e => ?_, fun k hk e => ?_, h2.below_of hf.bel (fun k hk => (World.ownsRow.lt hf.n k hk).1) hf.bel.size⟩
  · rcases h3 k e with h4 | h4
    · exact hf.bn k hk h4
    · have := (World.ownsRow.lt hf.b k hk).2; omega
  · rcases h3 k e with h4 | h4
    · exact hf.wn k hk h4
    · have := (World.ownsRow.lt hf.w k hk).2; omega

/-- Join of the bytes so far and of a number's. -/
theorem join2 (w : World) (ba : Option Addr) (bc g k base n : Nat) (lb : List Nat) (hb0 : Bs w ba bc lb) (hx : w.ownsRow base 5 1 (.slice (some ⟨g, 0, none⟩) k k) k (u8s (byteN n k))) (hk : k ≤ 8) (hl : lb.length ≤ 1000) :
    Calls Try.prog 22 #[.slice (some ⟨w.heap.size, 0, none⟩) 2 2] (w.alloc (.cells #[.slice ba lb.length bc, .slice (some ⟨g, 0, none⟩) k k] 23)) fun e w' => ∃ v, e = .returned v ∧ OwnBytes w' w.heap.size v (lb ++ byteN n k) ∧ Below w.heap.size w w' := by
  have hb : Below w.heap.size w (w.alloc (.cells #[.slice ba lb.length bc, .slice (some ⟨g, 0, none⟩) k k] 23)) := (Below.refl _ _).alloc (Nat.le_refl _) _
  have hR : RowsOf (w.alloc (.cells #[.slice ba lb.length bc, .slice (some ⟨g, 0, none⟩) k k] 23)) (some ⟨w.heap.size, 0, none⟩) [((ba, bc), lb), ((some ⟨g, 0, none⟩, k), byteN n k)] := by
    intro r p hp
    refine ⟨w.heap.size, 0, rfl, ?_⟩
    have hbx : Bs w (some ⟨g, 0, none⟩) k (byteN n k) := ⟨by rw [length_byteN]; exact SlAt.of_owns hx, by simp, fun e => by cases e⟩
    match r, hp with
    | 0, hp => simp at hp; subst hp; exact ⟨by simp, hb0.below hb⟩
    | 1, hp => simp at hp; subst hp; exact ⟨by simp, hbx.below hb⟩
  refine (fjoin_any _ _ _ _ hR (by simp) (by simp [joined]; omega)).mono ?_
  rintro e w' ⟨v, rfl, ho, hb'⟩
  refine ⟨v, rfl, ?_, hb.trans (hb'.mono (by simp))⟩
  have e : joined [((ba, bc), lb), ((some (⟨g, 0, none⟩ : Addr), k), byteN n k)] = lb ++ byteN n k := by simp [joined]
  rw [e] at ho
  exact ownsRow_base ho (by simp)


theorem zip_get (vs us : List Int) (j : Nat) (x u : Int) (hx : vs[j]? = some x) (hu : us[j]? = some u) (hj : j < 10) : (((vs.zip us).take 10).map fun p => pairOf p.1 p.2)[j]? = some (pairOf x u) := by
  have e : (vs.zip us)[j]? = some (x, u) := by rw [List.getElem?_zip_eq_some]; exact ⟨hx, hu⟩
  simp [List.getElem?_take, hj, e]
theorem Z_next (Z : List (Nat × Nat)) (j : Nat) (p : Nat × Nat) (h : Z[j]? = some p) : Z.take (j + 1) = Z.take j ++ [p] := by rw [List.take_add_one, h]; rfl

theorem bytesZ_next (Z : List (Nat × Nat)) (j n k : Nat) (h : Z[j]? = some (n, k)) : bytesZ (Z.take (j + 1)) = bytesZ (Z.take j) ++ byteN n k := by
  rw [Z_next Z j _ h]
  unfold bytesZ
  rw [List.map_append, List.flatten_append]
  simp
theorem widthsZ_next (Z : List (Nat × Nat)) (j n k : Nat) (h : Z[j]? = some (n, k)) : widthsZ (Z.take (j + 1)) = widthsZ (Z.take j) ++ [(k : Int)] := by
  rw [Z_next Z j _ h]
  unfold widthsZ
  rw [List.map_append]
  simp
theorem numsZ_next (Z : List (Nat × Nat)) (j n k : Nat) (h : Z[j]? = some (n, k)) : numsZ (Z.take (j + 1)) = numsZ (Z.take j) ++ [(n : Int)] := by
  rw [Z_next Z j _ h]
  unfold numsZ
  rw [List.map_append]
  simp
theorem powP (k P : Nat) (hP : P = 2 ^ (8 * k)) (hk : k ≤ 7) : wrap64 (2 ^ (8 * k)) = (P : Int) ∧ 1 ≤ P ∧ P ≤ 72057594037927936 := by
  have h1 : 2 ^ (8 * k) ≤ 2 ^ 56 := Nat.pow_le_pow_right (by decide) (by omega)
  have h2 : (2 : Nat) ^ 56 = 72057594037927936 := by decide
  have h3 : 0 < 2 ^ (8 * k) := Nat.pow_pos (by decide)
  refine ⟨by rw [hP]; exact wrap64_pow (8 * k) (by omega), by omega, by omega⟩
theorem modP (x : Int) (P n : Nat) (hP : 1 ≤ P) (hP2 : P ≤ 72057594037927936) (hn : n = (x % (P : Int)).toNat) : x % (P : Int) = (n : Int) ∧ n < P ∧ I64 (n : Int) := by
  have hn0 := Int.emod_nonneg x (show (P : Int) ≠ 0 by omega)
  have hn1 := Int.emod_lt_of_pos x (show (0 : Int) < P by omega)
  unfold I64
  omega
theorem pairOf_eq (x u : Int) (k P n : Nat) (hk : k = (u % 7).toNat + 1) (hP : P = 2 ^ (8 * k)) (hn : n = (x % (P : Int)).toNat) : pairOf x u = (n, k) := by
  unfold pairOf
  rw [hn, hP, hk]

theorem took_some {w w' : World} {ln : List Int} {e : Ending} (h : Took w w' (some ln) e) : ∃ va vc, e = .returned (.tuple #[.slice va ln.length vc, .bool true]) ∧ OwnInts w' w.heap.size (.slice va ln.length vc) ln ∧ Below w.heap.size w w' := by
  obtain ⟨v, rfl, ho, hb⟩ := h
  have ho' : OwnInts w' w.heap.size v ln := ho
  obtain ⟨va, vc, rfl, _, _⟩ := ho'.slice
  exact ⟨va, vc, rfl, ho', hb⟩
theorem took_none {w w' : World} {e : Ending} (h : Took w w' none e) : ∃ v, e = .returned (.tuple #[v, .bool false]) ∧ Below w.heap.size w w' := by
  obtain ⟨v, rfl, ho, hb⟩ := h
  exact ⟨v, rfl, hb⟩
theorem OwnInts.at {w : World} {base n cap : Nat} {a : Option Addr} {l : List Int} (h : OwnInts w base (.slice a n cap) l) : IntsAt w a l := IntsAt.of_owns h

/-- What is left behind the last append: the bytes, the widths and one more, the numbers, what was taken. -/
structure FE (W w3 : World) (ba : Option Addr) (bc : Nat) (lb : List Nat) (ya : Option Addr) (l1 : List Int) (na va : Option Addr) (ln : List Int) : Prop where
  b : Bs w3 ba bc lb
  y : IntsAt w3 ya l1
  n : IntsAt w3 na ln
  v : IntsAt w3 va ln
  nlt : ∀ x, na = some x → x.block < w3.heap.size
  vlt : ∀ x, va = some x → x.block < w3.heap.size
  bel : Below W.heap.size W w3
theorem own_lt {w : World} {base n cap : Nat} {a : Option Addr} {l : List Int} (h : OwnInts w base (.slice a n cap) l) : ∀ x, a = some x → x.block < w.heap.size := by
  intro x hx
  subst hx
  exact (World.ownsRow.lt h x.block rfl).2

theorem wpList_append_last {P : Program} (W w0 : World) {ops : Array Oper} {rest : List Oper} {o : Oper} {a : Act} {Q : Exit → Act → World → Prop}
    (hgd : o.guard = none) (s x : Operand) (t : TypeId) (ho : o.op = .call { callee := .builtin .append, args := #[s, x], argTypes := #[t, t] })
    (i : TypeInfo) (ht : P.underlying t = some (.slice 3)) (hi : P.info? 3 = some i) (hz : i.zero = some (.int .i64 0)) (hsize : i.size = 1) (hby : i.bytes = 8)
    (ba sa na va : Option Addr) (bc sc nc vc N : Nat) (lb : List Nat) (lw ln l1 : List Int) (hs : a.eval s = .slice sa lw.length sc) (hf : FB W w0 (.slice ba lb.length bc) (.slice sa lw.length sc) (.slice na ln.length nc) lb lw ln) (hbs : Bs w0 ba bc lb) (hv : OwnInts w0 N (.slice va ln.length vc) ln) (hN : ∀ k, (Value.slice sa lw.length sc).ownBlock = some k → k < N)
    (y : Int) (hl1 : lw ++ [y] = l1) (hx : a.eval x = .slice (some ⟨w0.heap.size, 0, none⟩) 1 1) (hl : lw.length ≤ 1000000)
    (h : ∀ ya yc w', Hid (FE W w' ba bc lb ya l1 na va ln) → wpList P ops Q rest (a.put o.dst (.slice ya l1.length yc)) w') : wpList P ops Q (o :: rest) a (w0.alloc (.cells #[.int .i64 y] 3)) := by
  refine wpList_append_int_mine w0 hgd s x t ho W.heap.size i ht hi hz hsize hby _ lw hs hf.w y hx hl hf.bel.size ?_
  intro v' w' h1 h2 h3
  rw [hl1] at h1
  obtain ⟨ya, yc, rfl, hy, _⟩ := h1.slice
  have hn' : OwnInts w' W.heap.size (.slice na ln.length nc) ln := ownsRow_other hf.n h2 (fun k hk e => hf.wn k e hk)
  have hv' : OwnInts w' N (.slice va ln.length vc) ln := ownsRow_other hv h2 (fun k hk e => by have := hN k e; have := (World.ownsRow.lt hv k hk).1; omega)
  exact h ya yc w' ⟨hbs.kept h2 (fun _ k hk => hf.bw k hk), hy, hn'.at, hv'.at, own_lt hn', own_lt hv', h2.below_of hf.bel (fun k hk => (World.ownsRow.lt hf.w k hk).1) hf.bel.size⟩

set_option maxRecDepth 100000 in
set_option maxHeartbeats 8000000 in
theorem fback_any (W : World) (a : Option Addr) (len cap : Nat) (zl : List Int) (wa : Option Addr) (wlen wcap : Nat) (zw : List Int) (hr : IsRow .i64 W a len cap zl) (hrw : IsRow .i64 W wa wlen wcap zw) :
    Calls Try.prog 6 #[.slice a len cap, .slice wa wlen wcap] W fun e W' => e = .returned (.bool true) ∧ Below W.heap.size W W' := by
  obtain ⟨i0, hi, hz0, hz1, hz2⟩ := info_parts Try.info3
  obtain ⟨vs, hvl, hvI, hvat, hvle, hvm, hvnone, hvblk⟩ := hr.ints
  obtain ⟨us, hul, huI, huat, hule, hum, hunone, hublk⟩ := hrw.ints
  unfold maxLen at hvm hum
  subst hvl hul
  obtain ⟨Z, hZ⟩ : ∃ Z, Z = ((vs.zip us).take 10).map (fun p => pairOf p.1 p.2) := ⟨_, rfl⟩
  have hzl : Z.length ≤ 10 ∧ Z.length ≤ vs.length ∧ Z.length ≤ us.length ∧ (vs.length ≤ Z.length ∨ us.length ≤ Z.length ∨ 10 ≤ Z.length) := by rw [hZ]; simp; omega
  obtain ⟨hz10, hzv, hzu, hzor⟩ := hzl
  have HZ : Hid (Z = ((vs.zip us).take 10).map (fun p => pairOf p.1 p.2)) := hZ
  have HVA : Hid (IntsAt W a vs) := hvat
  have HUA : Hid (IntsAt W wa us) := huat
  have HVI : Hid (∀ x ∈ vs, I64 x) := hvI
  have HUI : Hid (∀ x ∈ us, I64 x) := huI
  have HG : Hid (∀ p ∈ Z, p.2 ≤ 7 ∧ p.1 < 2 ^ (8 * p.2)) := by
    intro p hp
    rw [hZ] at hp
    obtain ⟨q, _, rfl⟩ := List.mem_map.1 hp
    exact pairOf_good q.1 q.2
  have HBL : Hid (∀ j, (bytesZ (Z.take j)).length ≤ 70) := by
    intro j
    have h1 := bytesZ_len (Z.take j) (fun p hp => (HG.out p (List.mem_of_mem_take hp)).1)
    have h2 : (Z.take j).length ≤ 10 := by simp; omega
    omega
  clear hZ hvat huat hvI huI hr hrw hvblk hublk hvnone hunone hvle hule
  go_enter Try.func6, Try.ntmps6
  go_wp2_with fail
  go_loopw [5, 6, 7, 8] (fun bv wv nv i wr => ∃ j : Nat, i = .int .i64 (j : Int) ∧ j ≤ Z.length ∧ Hid (FB W wr bv wv nv (bytesZ (Z.take j)) (widthsZ (Z.take j)) (numsZ (Z.take j)))) (fun _ _ _ i _ => Z.length - (intOf i).toNat)
  case atStart => exact ⟨0, rfl, Nat.zero_le _, ⟨World.ownsRow_nil _ _ _ _, OwnInts.nil _ _, OwnInts.nil _ _, (fun k hk => by cases hk), (fun k hk => by cases hk), (fun k hk => by cases hk), Below.refl _ _⟩⟩
  case round =>
    obtain ⟨j, rfl, hj, hf⟩ := hrel
    by_cases hjn : j < Z.length
    · have hj10 : j < 10 := by omega
      have hjv : j < vs.length := by omega
      have hju : j < us.length := by omega
      obtain ⟨x, hx⟩ : ∃ x, vs[j]? = some x := ⟨vs[j], by simp [hjv]⟩
      obtain ⟨u, hu⟩ : ∃ u, us[j]? = some u := ⟨us[j], by simp [hju]⟩
      obtain ⟨b0, off, rfl, hc⟩ := HVA.out j x hx
      obtain ⟨b1, off1, rfl, hc1⟩ := HUA.out j u hu
      obtain ⟨hx1, hx2⟩ := HVI.out x (List.mem_of_getElem? hx)
      obtain ⟨hu1, hu2⟩ := HUI.out u (List.mem_of_getElem? hu)
      have hcx : wr.cell? ⟨b0, off + j, none⟩ = some (.int .i64 x) := by
        rw [hf.out.bel.cell (p := ⟨b0, off + j, none⟩) (World.block_lt_of_cell? W _ hc)]
        exact hc
      have hcu : wr.cell? ⟨b1, off1 + j, none⟩ = some (.int .i64 u) := by
        rw [hf.out.bel.cell (p := ⟨b1, off1 + j, none⟩) (World.block_lt_of_cell? W _ hc1)]
        exact hc1
      have hzj : Z[j]? = some (pairOf x u) := by rw [HZ.out]; exact zip_get vs us j x u hx hu hj10
      obtain ⟨k0, hk0⟩ : ∃ k : Nat, k = (u % 7).toNat := ⟨_, rfl⟩
      have HK : Hid (u % 7 = (k0 : Int)) := by show _ = _; omega
      obtain ⟨k, hk⟩ : ∃ k : Nat, k = k0 + 1 := ⟨_, rfl⟩
      have hkk : 1 + (k0 : Int) = (k : Int) := by omega
      have hk7 : k ≤ 7 := by omega
      have hk1 : 1 ≤ k := by omega
      obtain ⟨P, hP⟩ : ∃ P : Nat, P = 2 ^ (8 * k) := ⟨_, rfl⟩
      obtain ⟨hPw, hP1, hP2⟩ := powP k P hP hk7
      obtain ⟨n, hn⟩ : ∃ n : Nat, n = (x % (P : Int)).toNat := ⟨_, rfl⟩
      obtain ⟨hmod, hnP, hIn⟩ := modP x P n hP1 hP2 hn
      have HN : Hid (x % (P : Int) = (n : Int)) := hmod
      have IN : Hid (I64 (n : Int)) := hIn
      have hpair : pairOf x u = (n, k) := pairOf_eq x u k P n (by rw [hk, hk0]) hP hn
      rw [hpair] at hzj
      have HNB : Hid (bytesZ (Z.take (j + 1)) = bytesZ (Z.take j) ++ byteN n k) := bytesZ_next Z j n k hzj
      have HNW : Hid (widthsZ (Z.take (j + 1)) = widthsZ (Z.take j) ++ [(k : Int)]) := widthsZ_next Z j n k hzj
      have HNN : Hid (numsZ (Z.take (j + 1)) = numsZ (Z.take j) ++ [(n : Int)]) := numsZ_next Z j n k hzj
      have hlw : (widthsZ (Z.take j)).length ≤ 1000000 := by simp [widthsZ]; omega
      have hln : (numsZ (Z.take j)).length ≤ 1000000 := by simp [numsZ]; omega
      obtain ⟨ba, bc, rfl, hbs⟩ := OwnBytes.bs hf.out.b
      have HBS : Hid (Bs wr ba bc (bytesZ (Z.take j))) := hbs
      have hbl := HBL.out j
      clear hc hc1 hx hu hzj hk0 hk hP hn hmod hIn hpair hbs
      go_wp2_with fail
      refine (within_any u 7 _ hu1 hu2 (by decide) (by decide)).mono ?_
      rw [HK.out]
      rintro e w0 ⟨rfl, rfl⟩
      go_wp2_with fail
      refine (within_any x P _ hx1 hx2 (by omega) (by omega)).mono ?_
      rw [HN.out]
      rintro e w0 ⟨rfl, rfl⟩
      go_wp2_with fail
      refine (fput_any wr n k IN.out (by unfold I64; omega) n k (by omega) (by omega)).mono ?_
      rintro e w1 ⟨rfl, ho1, hb1⟩
      have HO1 : Hid (w1.ownsRow wr.heap.size 5 1 (.slice (some ⟨wr.heap.size, 0, none⟩) k k) k (u8s (byteN n k))) := ho1
      have HBS1 : Hid (Bs w1 ba bc (bytesZ (Z.take j))) := HBS.out.below hb1
      have HF1 : Hid (FB W w1 (.slice ba (bytesZ (Z.take j)).length bc) _ _ (bytesZ (Z.take j)) (widthsZ (Z.take j)) (numsZ (Z.take j))) := hf.out.below hb1
      clear ho1 hb1 HBS hf
      go_wp2_with fail
      refine (join2 w1 ba bc wr.heap.size k wr.heap.size n (bytesZ (Z.take j)) HBS1.out HO1.out (by omega) (by omega)).mono ?_
      rintro e w2 ⟨bv2, rfl, ho2, hb2⟩
      rw [← HNB.out] at ho2
      have HF2 : Hid (FB W w2 bv2 _ _ (bytesZ (Z.take (j + 1))) (widthsZ (Z.take j)) (numsZ (Z.take j))) := HF1.out.bytes hb2 (Nat.le_refl _) ho2
      clear ho2 hb2 HF1 HBS1 HO1
      go_wp2_with (at_builtin; go_must (refine wpList_append_ws W _ rfl (.tmp 52) (.tmp 54) 33 rfl i0 Try.underlying33 hi hz0 hz1 hz2 bv2 _ _ (bytesZ (Z.take (j + 1))) (widthsZ (Z.take j)) (numsZ (Z.take j)) rfl HF2.out (k : Int) rfl hlw ?_))
      intro wv3 w3 HF3
      rw [← HNW.out] at HF3
      go_wp2_with (at_builtin; go_must (refine wpList_append_ns W _ rfl (.tmp 56) (.tmp 58) 33 rfl i0 Try.underlying33 hi hz0 hz1 hz2 bv2 wv3 _ (bytesZ (Z.take (j + 1))) (widthsZ (Z.take (j + 1))) (numsZ (Z.take j)) rfl HF3.out (n : Int) rfl hln ?_))
      intro nv4 w4 HF4
      rw [← HNN.out] at HF4
      go_wp2_with fail
      exact ⟨⟨j + 1, by go_num, by omega, HF4⟩, by (simp [intOf]) <;> omega⟩
    · have ej : j = Z.length := by omega
      subst ej
      have hcc : (vs.length ≤ Z.length) ∨ (Z.length < vs.length ∧ us.length ≤ Z.length) ∨ (Z.length < vs.length ∧ Z.length < us.length ∧ decide ((Z.length : Int) < 10) = false) := by
        by_cases h1 : vs.length ≤ Z.length
        · exact .inl h1
        · by_cases h2 : us.length ≤ Z.length
          · exact .inr (.inl ⟨by omega, h2⟩)
          · exact .inr (.inr ⟨by omega, by omega, decide_eq_false (by omega)⟩)
      rw [List.take_length] at hf
      have hbl := HBL.out Z.length
      rw [List.take_length] at hbl
      obtain ⟨lb, hlb⟩ : ∃ lb, lb = bytesZ Z := ⟨_, rfl⟩
      obtain ⟨lw, hlw⟩ : ∃ lw, lw = widthsZ Z := ⟨_, rfl⟩
      obtain ⟨ln, hln⟩ : ∃ ln, ln = numsZ Z := ⟨_, rfl⟩
      have hlwl : lw.length ≤ 10 := by rw [hlw]; simp [widthsZ]; omega
      have hlnl : ln.length ≤ 10 := by rw [hln]; simp [numsZ]; omega
      have h256 : ∀ x ∈ lb, x < 256 := by rw [hlb]; exact bytesZ_lt Z
      have hT1 : some ln = takeN lb lw := by
        have := takeN_back Z HG.out []
        rw [List.append_nil] at this
        rw [hlb, hlw, hln, this]
        simp [takeN]
      have hIw : ∀ x ∈ lw, I64 x := by
        intro x hx
        rw [hlw] at hx
        obtain ⟨q, hq, rfl⟩ := List.mem_map.1 hx
        have := (HG.out q hq).1
        show -9223372036854775808 ≤ (q.2 : Int) ∧ (q.2 : Int) ≤ 9223372036854775807
        omega
      have hT2 : none = takeN lb (lw ++ [1]) := by
        rw [hlb, hlw, takeN_back Z HG.out [1]]
        rfl
      obtain ⟨l1, hl1⟩ : ∃ l1, l1 = lw ++ [1] := ⟨_, rfl⟩
      have hl1l : l1.length ≤ 11 := by rw [hl1]; simp; omega
      have hI1 : ∀ x ∈ l1, I64 x := by
        intro x hx
        rw [hl1] at hx
        rcases List.mem_append.1 hx with h | h
        · exact hIw x h
        · simp at h
          rw [h]
          exact ⟨by decide, by decide⟩
      rw [← hl1] at hT2
      rw [← hlb, ← hlw, ← hln] at hf
      rw [← hlb] at hbl
      have HL1 : Hid (lw ++ [1] = l1) := hl1.symm
      have H256 : Hid (∀ x ∈ lb, x < 256) := h256
      have HT1 : Hid (some ln = takeN lb lw) := hT1
      have HT2 : Hid (none = takeN lb l1) := hT2
      have HIW : Hid (∀ x ∈ lw, I64 x) := hIw
      have HI1 : Hid (∀ x ∈ l1, I64 x) := hI1
      obtain ⟨ba, bc, rfl, hbs⟩ := OwnBytes.bs hf.out.b
      obtain ⟨sa, sc, rfl, hsat, _⟩ := hf.out.w.slice
      obtain ⟨na, nc, rfl, _, _⟩ := hf.out.n.slice
      have HBS : Hid (Bs wr ba bc lb) := hbs
      have HSA : Hid (IntsAt wr sa lw) := hsat
      have hsz : W.heap.size ≤ wr.heap.size := hf.out.bel.size
      clear hlb hlw hln h256 hT1 hT2 hIw hI1 hl1 hbs hsat hzor HVA HUA HVI HUI HG HBL HZ hvm hum
      rcases hcc with hc | ⟨hc, hc'⟩ | ⟨hc, hc', hc''⟩
      all_goals
        go_wp2_with fail
        refine (ftake_any wr ba sa bc sc lb lw HBS.out HSA.out (by omega) (by omega) H256.out HIW.out (some ln) HT1.out).mono ?_
        rintro e w2 htk2
        obtain ⟨va, vc, rfl, ho2, hb2⟩ := took_some htk2
        have HV2 : Hid (OwnInts w2 wr.heap.size (.slice va ln.length vc) ln) := ho2
        have HF2 : Hid (FB W w2 (.slice ba lb.length bc) (.slice sa lw.length sc) (.slice na ln.length nc) lb lw ln) := hf.out.below hb2
        have HW2 : Hid (∀ k, (Value.slice sa lw.length sc).ownBlock = some k → k < wr.heap.size) := fun k hk => (World.ownsRow.lt hf.out.w k hk).2
        have HBS2 : Hid (Bs w2 ba bc lb) := HBS.out.below hb2
        have hs2 : W.heap.size ≤ w2.heap.size := HF2.out.bel.size
        clear ho2 hb2 HBS HSA hf htk2
        go_wp2_with (at_builtin; go_must (refine wpList_append_last W _ rfl (.tmp 68) (.tmp 69) 33 rfl i0 Try.underlying33 hi hz0 hz1 hz2 ba sa na va bc sc nc vc wr.heap.size lb lw ln l1 rfl HF2.out HBS2.out HV2.out HW2.out 1 HL1.out rfl (by omega) ?_))
        intro ya yc w3 HE
        have hs3 : W.heap.size ≤ w3.heap.size := HE.out.bel.size
        clear HV2 HF2 HW2 HBS2
        go_wp2_with fail
        refine (ftake_any w3 ba ya bc yc lb l1 HE.out.b HE.out.y (by omega) (by omega) H256.out HI1.out none HT2.out).mono ?_
        rintro e w4 htk4
        obtain ⟨v4, rfl, hb4⟩ := took_none htk4
        have HN4 : Hid (IntsAt w4 na ln) := HE.out.n.below hb4 HE.out.nlt
        have HV4 : Hid (IntsAt w4 va ln) := HE.out.v.below hb4 HE.out.vlt
        have HB4 : Hid (Below W.heap.size W w4) := HE.out.bel.trans (hb4.mono hs3)
        have hs4 : W.heap.size ≤ w4.heap.size := HB4.out.size
        clear hb4 htk4 HE
        go_wp2_with fail
        refine (sameInt_any w4 va na vc nc ln HV4.out HN4.out (by omega)).mono ?_
        rintro e w5 ⟨rfl, n5, hw5⟩
        have HB5 : Hid (Below W.heap.size W w5) := by rw [hw5]; exact below_drewN HB4.out n5
        have hs5 : W.heap.size ≤ w5.heap.size := HB5.out.size
        clear hw5 HN4 HV4 HB4
        go_wp2_with fail
        refine (wakes4_any w5).mono ?_
        rintro e w6 ⟨rfl, hb6⟩
        have HB6 : Hid (Below W.heap.size W w6) := HB5.out.trans (hb6.mono hs5)
        clear hb6
        go_wp2
        go_ret
        exact ⟨rfl, HB6.out⟩

end Go.Proofs.Ytdfgceplgcblkaa
