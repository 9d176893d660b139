/- The texts BytesB, BlkC, Tone, Crc2, Crc3, Crc4, one behind the other. -/
import Derived.Test.YtejgkgnocgplbabGreatPart08
import Derived.Laws.AppendOwnNone
import Derived.Test.YtejgkgnocgplbabGreatPart10
import Derived.Test.YtejgkgnocgplbabGreatPart09
import Derived.Test.YtejgkgnocgplbabGreatPart03
import Derived.Deep.CutRange
import Derived.Test.YtejgkgnocgplbabGreatPart04
import Derived.Laws.BitsAll
import Derived.Defers
import Derived.Laws.Pointers
import Derived.Laws.LoneSync
import Derived.RegionTactic
import Derived.RegionCalls
import Derived.ChangeAlike

/- Slices of bytes that can be read, their parts; appends of them to rows of the call's own. -/
namespace Go.Proofs.YtejgkgnocgplbabGreat
set_option linter.unusedVariables false
set_option linter.unusedSimpArgs false
open Go.RowKit Dg

/-- A slice of bytes that can be read, and its room. -/
structure Bs (w : World) (a : Option Addr) (cap : Nat) (l : List Nat) : Prop where
  at_ : SlAt w (.slice a l.length cap) l
  le : l.length ≤ cap
  nil : a = none → cap = 0
theorem Bs.below {w w' : World} {a : Option Addr} {cap : Nat} {l : List Nat} (h : Bs w a cap l) (hb : Below w.heap.size w w') : Bs w' a cap l := ⟨h.at_.below hb, h.le, h.nil⟩
theorem Bs.kept {w w' : World} {a : Option Addr} {cap : Nat} {l : List Nat} {F : Nat → Prop} (h : Bs w a cap l) (hk : Kept F w w') (hF : l ≠ [] → ∀ k, (Value.slice a l.length cap).ownBlock = some k → ¬ F k) : Bs w' a cap l := ⟨h.at_.kept' hk hF, h.le, h.nil⟩
/-- Where b[k:] lies. -/
def lowA (a : Option Addr) (cap k : Nat) : Option Addr := if cap = k then a else a.map (·.add k)
theorem Bs.lo {w : World} {a : Option Addr} {cap : Nat} {l : List Nat} (h : Bs w a cap l) (k : Nat) (hk : k ≤ l.length) : Bs w (lowA a cap k) (cap - k) (l.drop k) := by
  unfold lowA
  by_cases hck : cap = k
  · have hl := h.le
    rw [if_pos hck]
    refine ⟨?_, by simp; omega, fun e => by have := h.nil e; omega⟩
    rw [List.drop_eq_nil_of_le (by omega)]
    exact SlAt.none_of _ _ _ rfl
  · rw [if_neg hck]
    cases a with
    | none => have := h.nil rfl; have := h.le; omega
    | some x =>
      refine ⟨?_, by have := h.le; simp; omega, fun e => by cases e⟩
      rw [List.length_drop]
      exact h.at_.drop k hk rfl
theorem Bs.hi {w : World} {a : Option Addr} {cap : Nat} {l : List Nat} (h : Bs w a cap l) (k : Nat) (hk : k ≤ l.length) : SlAt w (.slice a k cap) (l.take k) := h.at_.take k hk rfl
theorem Bs.of_row {w : World} {a : Option Addr} {len cap n : Nat} {zs : List Int} (hr : IsRow .u8 w a len cap zs) : ∃ l : List Nat, l.length = min len n ∧ (∀ x ∈ l, x < 256) ∧ Bs w a cap l ∧ len ≤ cap ∧ cap ≤ maxLen ∧ (a = none → len = 0 ∧ cap = 0) := by
  obtain ⟨l, hll, h256, hsl, hc1, hc2, hc3⟩ := cut_row (n := n) hr
  exact ⟨l, hll, h256, ⟨by rw [hll]; exact hsl, by omega, fun e => (hc3 e).2⟩, hc1, hc2, hc3⟩
theorem OwnBytes.bs {w : World} {base : Nat} {v : Value} {l : List Nat} (h : OwnBytes w base v l) : ∃ a cap, v = .slice a l.length cap ∧ Bs w a cap l := by
  have h' : w.ownsRow base 5 1 v l.length (u8s l) := h
  rcases h.2 with ⟨rfl, hn⟩ | ⟨g, cap, cur, rfl, hb, hh, hn, _, hcs, htake⟩
  · exact ⟨none, 0, by rw [hn], by rw [hn]; exact SlAt.of_owns h', by omega, fun _ => rfl⟩
  · exact ⟨some ⟨g, 0, none⟩, cap, rfl, SlAt.of_owns h', hn, fun e => by cases e⟩

theorem slice_hi (a : Option Addr) (n cap k : Nat) (hk : k ≤ cap) (W : World) : (Instr.sliceAt 28 (.slice a n cap) none (some (.int .i64 (k : Int))) none).run Tryz.prog W = .ok (.slice a k cap) W := by
  obtain ⟨i0, hi, hz0, hz1, hz2⟩ := info_parts Tryz.info5
  simp [Instr.sliceAt, Instr.slice, Instr.sliceBounds, Instr.sliceBound, asIntOf, run_underlying Tryz.underlying28, sizeOf, typeInfo, hi, hk]
  cases a <;> simp [Addr.add]
theorem slice_lo (a : Option Addr) (n cap k : Nat) (hk : k ≤ n) (W : World) : (Instr.sliceAt 28 (.slice a n cap) (some (.int .i64 (k : Int))) none none).run Tryz.prog W = .ok (.slice (lowA a cap k) (n - k) (cap - k)) W := by
  obtain ⟨i0, hi, hz0, hz1, hz2⟩ := info_parts Tryz.info5
  simp [Instr.sliceAt, Instr.slice, Instr.sliceBounds, Instr.sliceBound, asIntOf, run_underlying Tryz.underlying28, sizeOf, typeInfo, hi, hz1, hk, lowA]

/-- 'append(s, x...)' of bytes to a row of the call's own. -/
theorem wpList_append_bytes (w : World) {ops : Array Oper} {rest : List Oper} {o : Oper} {a : Act} {Q : Exit → Act → World → Prop}
    (hgd : o.guard = none) (s x : Operand) (ho : o.op = .call { callee := .builtin .append, args := #[s, x], argTypes := #[28, 28] })
    (base : Nat) (v : Value) (l : List Nat) (hs : a.eval s = v) (hown : OwnBytes w base v l) (xa : Option Addr) (xc : Nat) (m : List Nat) (hx : a.eval x = .slice xa m.length xc) (hm : Bs w xa xc m)
    (hl : l.length + m.length ≤ 1000000) (hbase : base ≤ w.heap.size)
    (h : ∀ v' w', Hid (OwnBytes w' base v' (l ++ m)) → Hid (Kept (fun k => v.ownBlock = some k) w w') → Hid (∀ k, v'.ownBlock = some k → v.ownBlock = some k ∨ w.heap.size ≤ k) → wpList Tryz.prog ops Q rest (a.put o.dst v') w') : wpList Tryz.prog ops Q (o :: rest) a w := by
  obtain ⟨i0, hi, hz0, hz1, hz2⟩ := info_parts Tryz.info5
  have hown' : w.ownsRow base 5 1 v l.length (u8s l) := hown
  cases xa with
  | none =>
    have hc := hm.nil rfl
    have hle := hm.le
    have hm0 : m = [] := List.eq_nil_of_length_eq_zero (by omega)
    subst hm0 hc
    refine wpList_append_own_none hgd s x 28 ho base 5 i0 1 Tryz.underlying28 hi v l.length (u8s l) hs hown' hx ?_
    refine h v w ?_ (Kept.refl _ _) (fun k hk => .inl hk)
    rw [List.append_nil]; exact hown
  | some ad =>
    have hcell : ∀ j u, (u8s m)[j]? = some u → w.cell? (ad.add j) = some u := by
      intro j u hu
      rw [u8s_get] at hu
      obtain ⟨y, hy, rfl⟩ := Option.map_eq_some_iff.1 hu
      obtain ⟨b, off, e, hc⟩ := sl_cell hm.at_ hy
      cases e
      have hadd : (⟨b, off, none⟩ : Addr).add j = ⟨b, off + j, none⟩ := by simp [Addr.add]
      rw [hadd]
      exact hc
    have hone : ∀ u ∈ u8s m, u.oneCell' = true := by intro u hu; simp [u8s] at hu; obtain ⟨y, _, rfl⟩ := hu; rfl
    by_cases hne : m = []
    · subst hne
      rcases hown'.2 with ⟨hv, hn⟩ | ⟨g, cap, cur, hv, hb, hh, hn, hcm, hcs, htake⟩
      · refine wpList_append_own _ hgd s x 28 ho base 5 i0 (.int .u8 0) 1 1 Tryz.underlying28 hi hz0 hz1 hz2 rfl (by decide) v l.length (u8s l) hs hown' ad 0 xc [] hx rfl (fun j u hu => by simp at hu) (fun u hu => by simp at hu) (by unfold maxLen; omega) (by omega) hbase ?_
        intro v' w' h1 h2 h3
        have hv' : v' = .slice none 0 0 := h3.2 ⟨hv, rfl⟩
        refine h v' w' ?_ (Kept.grown h2) (fun k hk => by rw [hv'] at hk; cases hk)
        show World.ownsRow _ _ _ _ _ _ _
        simpa [u8s_append] using h1
      · refine wpList_append_fits w hgd s x 28 ho base 5 i0 1 Tryz.underlying28 hi hz1 g l.length cap (u8s l) (hs.trans hv) (hv ▸ hown') ad 0 xc [] hx rfl (fun j u hu => by simp at hu) (fun u hu => by simp at hu) (by omega) ?_
        intro w' h1 h2
        refine h _ w' ?_ ?_ (fun k hk => .inl ?_)
        · show World.ownsRow _ _ _ _ _ _ _
          simpa [u8s_append] using h1
        · have := Kept.grown h2
          rw [hv]; exact this
        · rw [hv]; exact hk
    · refine wpList_append_mine _ hgd s x 28 ho base 5 i0 (.int .u8 0) 1 1 Tryz.underlying28 hi hz0 hz1 hz2 rfl (by decide) v l.length (u8s l) hs hown' ad m.length xc (u8s m) hx (by simp) hcell hone (List.length_pos_iff.2 hne) (by unfold maxLen; omega) (by omega) hbase ?_
      intro g cap w' h1 h2 h3
      refine h _ w' ?_ (Kept.grown h2.out) (fun k hk => ?_)
      · show World.ownsRow _ _ _ _ _ _ _
        rw [u8s_append, List.length_append]; exact h1.out
      · simp [Value.ownBlock] at hk
        subst hk
        exact h3.out

end Go.Proofs.YtejgkgnocgplbabGreat

/- What the laws of block lean on: a bundle of contracts over a coder that lies somewhere between two places of memory. -/
namespace Go.Proofs.YtejgkgnocgplbabGreat
set_option linter.unusedVariables false
set_option linter.unusedSimpArgs false
open Go.RowKit Dg Cr

/-- The blocks of a coder: from base on, below top. -/
def InCo (base top k : Nat) : Prop := base ≤ k ∧ k < top
/-- Rows of bytes of one's own in a slice. -/
def RowsB (w : World) (B : Nat) (a : Option Addr) (R : List (List Nat)) : Prop :=
  ∀ (r : Nat) (L : List Nat), R[r]? = some L → ∃ b off g c, a = some ⟨b, off, none⟩ ∧ B ≤ b ∧ w.cell? ⟨b, off + r, none⟩ = some (.slice (some ⟨g, 0, none⟩) L.length c) ∧ OwnBytes w B (.slice (some ⟨g, 0, none⟩) L.length c) L
theorem RowsB.kept {w w' : World} {B : Nat} {a : Option Addr} {R : List (List Nat)} {F : Nat → Prop} (h : RowsB w B a R) (hk : Kept F w w') (hF : ∀ k, F k → k < B ∨ w.heap.size ≤ k) : RowsB w' B a R := by
  intro r L hL
  obtain ⟨b, off, g, c, h1, h2, h3, h4⟩ := h r L hL
  have hb := World.block_lt_of_cell? w _ h3
  refine ⟨b, off, g, c, h1, h2, ?_, ?_⟩
  · rw [hk.cell hb (fun hf => by rcases hF b hf with h | h; omega; exact absurd hb (Nat.not_lt.2 h))]
    exact h3
  · refine ownsRow_other h4 hk (fun k hk' hf => ?_)
    have := World.ownsRow.lt h4 k hk'
    rcases hF k hf with h | h <;> omega
/-- What is known of a coder of package block. -/
structure Blk (Co : World → Nat → Nat → Nat → Nat → Nat → Prop) : Prop where
  lt : ∀ {w b base top n m}, Co w b base top n m → base ≤ b ∧ b < top ∧ top ≤ w.heap.size
  keep : ∀ {w w' b base top n m} {F : Nat → Prop}, Co w b base top n m → Kept F w w' → (∀ k, InCo base top k → ¬ F k) → Co w' b base top n m
  newB : ∀ w, Calls Tryz.prog 6 #[] w fun e w' => ∃ b top, e = .returned (.pointer (some ⟨b, 0, none⟩)) ∧ Co w' b w.heap.size top 0 0 ∧ Below w.heap.size w w'
  sealB : ∀ w b base top n m a cap l R, Co w b base top n m → Bs w a cap l → (l ≠ [] → ∀ y, a = some y → ¬ InCo base top y.block) → l.length ≤ 100000 → n ≤ 100000 → (∀ x ∈ l, x < 256) → R = sealOut l →
    Calls Tryz.prog 16 #[.pointer (some ⟨b, 0, none⟩), .slice a l.length cap] w fun e w' => ∃ v, e = .returned (.tuple #[v, .int .i64 R.2]) ∧ OwnBytes w' w.heap.size v R.1 ∧ Co w' b base top (if R.2 = 0 then n + 1 else n) m ∧ Kept (InCo base top) w w'
  allNo : ∀ w b base top n m a cap x, Co w b base top n m → Ns w a cap x → (x ≠ [] → ∀ y, a = some y → ¬ InCo base top y.block) → x.length ≤ 100000 → ¬ allS x →
    Calls Tryz.prog 15 #[.pointer (some ⟨b, 0, none⟩), .slice a x.length cap] w fun e w' => ∃ v u, e = .returned (.tuple #[v, u, .int .i64 8]) ∧ Co w' b base top n m ∧ Kept (InCo base top) w w'
  allB : ∀ w b base top n m a cap x k, Co w b base top n m → Ns w a cap x → (x ≠ [] → ∀ y, a = some y → ¬ InCo base top y.block) → x.length ≤ 100000 → n ≤ 100000 → allS x → k = (blocksOf x).length →
    Calls Tryz.prog 15 #[.pointer (some ⟨b, 0, none⟩), .slice a x.length cap] w fun e w' => ∃ va ca vb cb, e = .returned (.tuple #[.slice va k ca, .slice vb k cb, .int .i64 0]) ∧ RowsB w' w.heap.size va ((blocksOf x).map (·.1)) ∧ OwnInts w' w.heap.size (.slice vb k cb) ((blocksOf x).map fun p => ((p.2 : Nat) : Int)) ∧ Co w' b base top (n + k) m ∧ Kept (InCo base top) w w'

def UnsealC (Co : World → Nat → Nat → Nat → Nat → Nat → Prop) : Prop := ∀ w b base top n m a cap l R, Co w b base top n m → Bs w a cap l → (l ≠ [] → ∀ y, a = some y → ¬ InCo base top y.block) → l.length ≤ 100000 → m ≤ 100000 → (∀ x ∈ l, x < 256) → R = unsealOut l →
    Calls Tryz.prog 10 #[.pointer (some ⟨b, 0, none⟩), .slice a l.length cap] w fun e w' => ∃ v, e = .returned (.tuple #[v, .int .i64 R.2]) ∧ OwnBytes w' w.heap.size v R.1 ∧ Co w' b base top n (if R.2 = 0 then m + 1 else m) ∧ Kept (InCo base top) w w'
def OpenC (Co : World → Nat → Nat → Nat → Nat → Nat → Prop) : Prop := ∀ w b base top n m a cap l R, Co w b base top n m → Bs w a cap l → (l ≠ [] → ∀ y, a = some y → ¬ InCo base top y.block) → l.length ≤ 100000 → m ≤ 100000 → (∀ x ∈ l, x < 256) → R = openOut l →
    Calls Tryz.prog 9 #[.pointer (some ⟨b, 0, none⟩), .slice a l.length cap] w fun e w' => ∃ v, e = .returned (.tuple #[v, .int .i64 R.2]) ∧ OwnInts w' w.heap.size v R.1 ∧ Co w' b base top n (if R.2 = 0 then m + 1 else m) ∧ Kept (InCo base top) w w'
def PackC (Co : World → Nat → Nat → Nat → Nat → Nat → Prop) : Prop := ∀ w b base top n m a cap x R, Co w b base top n m → Ns w a cap x → (x ≠ [] → ∀ y, a = some y → ¬ InCo base top y.block) → x.length ≤ 100000 → n ≤ 100000 → R = packOut x →
    Calls Tryz.prog 7 #[.pointer (some ⟨b, 0, none⟩), .slice a x.length cap] w fun e w' => ∃ v, e = .returned (.tuple #[v, .int .i64 (R.2.1 : Nat), .int .i64 R.2.2]) ∧ OwnBytes w' w.heap.size v R.1 ∧ Co w' b base top (if R.2.2 = 0 then n + 1 else n) m ∧ Kept (InCo base top) w w'

/-- What a call on the coder does to what lies from W on. -/
theorem co_below {W w w' : World} {base top : Nat} (hb : Below W.heap.size W w) (hk : Kept (InCo base top) w w') (hB : W.heap.size ≤ base) : Below W.heap.size W w' :=
  hk.below_of hb (fun k hf => Nat.le_trans hB hf.1) hb.size
theorem Blk.grow {Co : World → Nat → Nat → Nat → Nat → Nat → Prop} (C : Blk Co) {w w' : World} {b base top n m : Nat} (h : Co w b base top n m) (hb : Below w.heap.size w w') : Co w' b base top n m :=
  C.keep (F := fun _ => False) h (Kept.of_below hb) (fun _ _ h => h)
theorem Blk.draws {Co : World → Nat → Nat → Nat → Nat → Nat → Prop} (C : Blk Co) {w : World} {b base top n m : Nat} (h : Co w b base top n m) (d : Nat) : Co (w.drewN d) b base top n m :=
  C.keep (F := fun _ => False) h ⟨rfl, rfl, rfl, Nat.le_refl _, fun _ _ _ => rfl⟩ (fun _ _ h => h)

theorem packOut_len (x : List Int) : (packOut x).1.length ≤ 128 := by
  unfold packOut
  split
  · simp
  · split
    · rename_i h0 hS
      show (packL x).length ≤ 128
      rw [packL_len hS (by omega)]
      exact Nat.le_refl _
    · simp
theorem Ns.lt {w : World} {a : Option Addr} {cap : Nat} {x : List Int} (h : Ns w a cap x) (hx : x ≠ []) : ∀ y, a = some y → y.block < w.heap.size := by
  intro y hy
  cases x with
  | nil => exact absurd rfl hx
  | cons v x =>
    obtain ⟨b0, o0, e0, hc0⟩ := h.at_ 0 v rfl
    rw [hy] at e0
    cases e0
    exact World.block_lt_of_cell? w _ hc0
theorem Ns.kept {w w' : World} {a : Option Addr} {cap : Nat} {x : List Int} {F : Nat → Prop} (h : Ns w a cap x) (hk : Kept F w w') (hF : x ≠ [] → ∀ y, a = some y → ¬ F y.block) : Ns w' a cap x := by
  cases x with
  | nil => exact ⟨IntsAt.nil _ _, h.le, h.nil⟩
  | cons v x => exact ⟨h.at_.kept hk (hF (by simp)), h.le, h.nil⟩
theorem fenc_n (w : World) (s n : Nat) (a : Option Addr) (cap : Nat) (l : List Int) (hn : l.length = n) (hl : Ns w a cap l) (hll : l.length ≤ 1000000) (hs : mayX l → IsShift (autoZ l 0) s) (R : List Nat × Int) (hR : R = encOut l s) :
    Calls Tryz.prog 21 #[.slice a n cap] w fun e w' => GaveN w w' R e := by
  subst hn
  exact fenc_any w s a cap l hl hll hs R hR
theorem Ns.part {w : World} {a : Option Addr} {cap : Nat} {l : List Int} (h : Ns w a cap l) (k : Nat) (hk : k ≤ l.length) : Ns w a cap (l.take k) := ⟨h.at_.take k, by have := h.le; simp; omega, h.nil⟩
theorem far_block {F : Nat → Prop} {a : Option Addr} {n c : Nat} (h : ∀ y, a = some y → ¬ F y.block) : ∀ k, (Value.slice a n c).ownBlock = some k → ¬ F k := by
  intro k hk
  cases a with
  | none => simp [Value.ownBlock] at hk
  | some y =>
    simp [Value.ownBlock] at hk
    subst hk
    exact h y rfl
/-- What was made behind the coder is none of its own. -/
theorem far_own {w : World} {B base top : Nat} {e : TypeId} {a : Option Addr} {n m c : Nat} {xs : List Value} (h : w.ownsRow B e 1 (.slice a n c) m xs) (hB : top ≤ B) : ∀ y, a = some y → ¬ InCo base top y.block := by
  intro y hy hf
  subst hy
  rcases h.2 with ⟨e1, -⟩ | ⟨g', cap', cur, hv, hgb, -⟩
  · cases e1
  · cases hv
    have h1 : g' < top := hf.2
    omega
theorem far_old {w : World} {base top : Nat} {a : Option Addr} {n c : Nat} {l : List Nat} (h : SlAt w (.slice a n c) l) (hB : w.heap.size ≤ base) : l ≠ [] → ∀ y, a = some y → ¬ InCo base top y.block := by
  intro hne y hy hf
  have h1 := SlAt.lt h hne y.block (by rw [hy]; rfl)
  have h2 := hf.1
  omega
theorem Bs.co {w w' : World} {a : Option Addr} {cap base top : Nat} {l : List Nat} (h : Bs w a cap l) (hk : Kept (InCo base top) w w') (hf : l ≠ [] → ∀ y, a = some y → ¬ InCo base top y.block) : Bs w' a cap l := h.kept hk (fun hne => far_block (hf hne))
theorem own_co {w w' : World} {B base top : Nat} {e : TypeId} {a : Option Addr} {n m c : Nat} {xs : List Value} (h : w.ownsRow B e 1 (.slice a n c) m xs) (hk : Kept (InCo base top) w w') (hB : top ≤ B) : w'.ownsRow B e 1 (.slice a n c) m xs :=
  ownsRow_other h hk (far_block (far_own h hB))
set_option maxHeartbeats 1000000 in
theorem wakes9_any {Co : World → Nat → Nat → Nat → Nat → Nat → Prop} (C : Blk Co) (w : World) : Calls Tryz.prog 8 #[] w fun e w' => e = .returned (.bool true) ∧ Below w.heap.size w w' := by
  obtain ⟨S, hS⟩ : ∃ S, S = sealL [] := ⟨_, rfl⟩
  have hSl : ((S.length : Int) == 128) = true := beq_iff_eq.2 (by rw [hS, length_sealL (by simp)]; rfl)
  have HR : Hid ((S, 0) = sealOut []) := by show _ = _; unfold sealOut; rw [if_neg (by simp), hS]
  have HK : Hid (0 = (blocksOf []).length) := by show _ = _; rw [blocksOf_nil rfl]; rfl
  clear hS
  go_enter Tryz.func8, Tryz.ntmps8
  go_wp2_with fail
  refine (C.newB w).mono ?_
  rintro e w1 ⟨b, top, rfl, hco, hb1⟩
  have HCO := hid_of hco
  have HB1 := hid_of hb1
  clear hco hb1
  go_wp2_with fail
  refine (C.allB w1 b _ top 0 0 none 0 [] 0 HCO.out ⟨IntsAt.nil _ _, Nat.le_refl _, fun _ => rfl⟩ (fun h => absurd rfl h) (by simp) (by decide) (fun x hx => by simp at hx) HK.out).mono ?_
  rintro e w2 ⟨va, ca, vb, cb, rfl, -, -, hco2, hk2⟩
  have HCO2 := hid_of hco2
  have HB2 := hid_of (co_below HB1.out hk2 (Nat.le_refl _))
  clear hco2 hk2
  go_wp2_with fail
  refine (C.sealB w2 b _ top _ 0 none 0 [] _ HCO2.out ⟨SlAt.nil _, Nat.le_refl _, fun _ => rfl⟩ (fun h => absurd rfl h) (by simp) (by decide) (fun x hx => by simp at hx) HR.out).mono ?_
  rintro e w3 ⟨v3, rfl, h3, hco3, hk3⟩
  obtain ⟨a3, c3, rfl, -⟩ := SlAt.of_owns h3
  have HB3 := hid_of (co_below HB2.out hk3 (Nat.le_refl _))
  clear h3 hco3 hk3
  go_wp2
  go_ret
  exact ⟨rfl, HB3.out⟩

end Go.Proofs.YtejgkgnocgplbabGreat

/- Samples that go on: law08's Tone. -/
namespace Go.Proofs.YtejgkgnocgplbabGreat
set_option linter.unusedVariables false
set_option linter.unusedSimpArgs false
open Go.RowKit Dg

theorem within_quiet8 (v n : Int) (w : World) (k : Nat) (hv1 : -9223372036854775808 ≤ v) (hv2 : v ≤ 9223372036854775807) (hn1 : 1 ≤ n) (hn2 : n ≤ 4611686018427387904) :
    Calls Tryz.prog 5 #[.int .i64 v, .int .i64 n] (w.drewN k) fun e w'' => e = .returned (.int .i64 (v % n)) ∧ ∃ m, w'' = w.drewN m :=
  (within_any v n (w.drewN k) hv1 hv2 hn1 hn2).mono fun e w'' ⟨h1, h2⟩ => ⟨h1, k, h2.symm⟩
theorem prod_in {b i B I : Int} (h1 : -B ≤ b) (h2 : b ≤ B) (h3 : 0 ≤ i) (h4 : i ≤ I) (hB : 0 ≤ B) : -(B * I) ≤ b * i ∧ b * i ≤ B * I := by
  have a1 : 0 ≤ (b + B) * i := Int.mul_nonneg (by omega) h3
  have a2 : 0 ≤ (B - b) * i := Int.mul_nonneg (by omega) h3
  have a3 : 0 ≤ B * (I - i) := Int.mul_nonneg hB (by omega)
  constructor <;> grind

set_option maxRecDepth 100000 in
set_option maxHeartbeats 8000000 in
theorem tone_any (w : World) (a : Option Addr) (cap : Nat) (l : List Int) (n kind noise : Int) (N : Nat) (h : IntsAt w a l) (hl : l.length ≤ maxLen) (hI : ∀ x ∈ l, I64 x) (hn : I64 n) (hk : I64 kind) (hno : I64 noise) (hN : n % 65 = (N : Int)) :
    Calls Tryz.prog 4 #[.slice a l.length cap, .int .i64 n, .int .i64 kind, .int .i64 noise] w fun e w' => ∃ v xs, e = .returned v ∧ OwnInts w' w.heap.size v xs ∧ xs.length = N ∧ (∀ x ∈ xs, -300000 ≤ x ∧ x ≤ 300000) ∧ Below w.heap.size w w' := by
  obtain ⟨i0, hi, hz0, hz1, hz2⟩ := info_parts Tryz.info3
  unfold maxLen at hl
  have H := hid_of h
  have HI := hid_of hI
  have HN := hid_of hN
  obtain ⟨hn1, hn2⟩ := hn
  obtain ⟨hk1, hk2⟩ := hk
  obtain ⟨ho1, ho2⟩ := hno
  have hN64 : N ≤ 64 := by omega
  obtain ⟨z, hz⟩ : ∃ z, noise % 4000 = z := ⟨_, rfl⟩
  have HZ := hid_of hz
  have hzb1 : 0 ≤ z := by omega
  have hzb2 : z < 4000 := by omega
  obtain ⟨q, hq⟩ : ∃ q, kind % 4 = q := ⟨_, rfl⟩
  have HQ := hid_of hq
  have hq4 : q = 0 ∨ q = 1 ∨ q = 2 ∨ q = 3 := by omega
  clear h hI hN hz hq
  go_enter Tryz.func4, Tryz.ntmps4
  go_wp2_with fail
  refine (within_any n 65 w hn1 hn2 (by decide) (by decide)).mono ?_
  rw [HN.out]
  rintro e w1 ⟨rfl, rfl⟩
  go_wp2_with fail
  refine (within_any noise 4000 w ho1 ho2 (by decide) (by decide)).mono ?_
  rw [HZ.out]
  rintro e w1 ⟨rfl, rfl⟩
  go_upto_if 21 with fail
  go_cut [9, 10, 11] from 22 to 36 (fun va vb vc wx => ∃ (A B C : Int) (d : Nat), va = .int .i64 A ∧ vb = .int .i64 B ∧ vc = .int .i64 C ∧ -50000 ≤ A ∧ A ≤ 50000 ∧ -1000 ≤ B ∧ B ≤ 1000 ∧ -20 ≤ C ∧ C ≤ 20 ∧ wx = w.drewN d)
  case first =>
    by_cases hlen : 2 < l.length
    · obtain ⟨x0, h0⟩ : ∃ x, l[0]? = some x := ⟨l[0]'(by omega), by simp⟩
      obtain ⟨x1, h1⟩ : ∃ x, l[1]? = some x := ⟨l[1]'(by omega), by simp⟩
      obtain ⟨x2, h2⟩ : ∃ x, l[2]? = some x := ⟨l[2]'(by omega), by simp⟩
      obtain ⟨b, off, rfl, hc0⟩ := H.out 0 x0 h0
      have hc1 : w.cell? ⟨b, off + 1, none⟩ = some (.int .i64 x1) := by
        obtain ⟨b2, o2, e2, hc2⟩ := H.out 1 x1 h1
        cases e2
        exact hc2
      have hc2 : w.cell? ⟨b, off + 2, none⟩ = some (.int .i64 x2) := by
        obtain ⟨b2, o2, e2, hc2⟩ := H.out 2 x2 h2
        cases e2
        exact hc2
      rw [Nat.add_zero] at hc0
      obtain ⟨g01, g02⟩ := HI.out x0 (List.mem_of_getElem? h0)
      obtain ⟨g11, g12⟩ := HI.out x1 (List.mem_of_getElem? h1)
      obtain ⟨g21, g22⟩ := HI.out x2 (List.mem_of_getElem? h2)
      clear h0 h1 h2
      go_wp2_with fail
      go_quiet ((go_at_call 5; refine within_quiet8 _ _ _ _ (by omega) (by omega) (by decide) (by decide)))
      go_wp2_with fail
      go_meet
      exact ⟨x0 % 100000 - 50000, x1 % 2000 - 1000, x2 % 40 - 20, _, rfl, rfl, rfl, by omega, by omega, by omega, by omega, by omega, by omega, rfl⟩
    · go_wp2_with fail
      go_meet
      exact ⟨0, 0, 0, 0, rfl, rfl, rfl, by decide, by decide, by decide, by decide, by decide, by decide, rfl⟩
  case rest =>
    obtain ⟨A, B, C, d, rfl, rfl, rfl, hA1, hA2, hB1, hB2, hC1, hC2, rfl⟩ := hcut
    go_wp2_with fail
    go_loopw [12, 13] (fun v i wr => ∃ (j : Nat) (xs : List Int), j ≤ N ∧ i = .int .i64 (j : Int) ∧ xs.length ≤ 1000000 ∧ Hid (xs.length = j) ∧ Hid (∀ x ∈ xs, -300000 ≤ x ∧ x ≤ 300000) ∧ Hid (OwnInts wr w.heap.size v xs) ∧ Hid (Below w.heap.size w wr)) (fun _ i _ => N - (intOf i).toNat)
    case atStart => exact ⟨0, [], Nat.zero_le _, rfl, by decide, rfl, fun x hx => by simp at hx, OwnInts.nil _ _, below_drewN (Below.refl _ _) d⟩
    case round =>
      obtain ⟨j, xs, hj, rfl, hxl, HXL, hxs, ho, hb⟩ := hrel
      have hsz : w.heap.size ≤ wr.heap.size := hb.out.size
      by_cases hjn : j < N
      · obtain ⟨p, hp⟩ : ∃ p, B * (j : Int) = p := ⟨_, rfl⟩
        have hpb := prod_in (b := B) (i := (j : Int)) (B := 1000) (I := 64) (by omega) (by omega) (by omega) (by omega) (by decide)
        rw [hp] at hpb
        obtain ⟨hp1, hp2⟩ := hpb
        obtain ⟨c1, hc1⟩ : ∃ c1, C * (j : Int) = c1 := ⟨_, rfl⟩
        have hc1b := prod_in (b := C) (i := (j : Int)) (B := 20) (I := 64) (by omega) (by omega) (by omega) (by omega) (by decide)
        rw [hc1] at hc1b
        obtain ⟨hc11, hc12⟩ := hc1b
        obtain ⟨c2, hc2⟩ : ∃ c2, c1 * (j : Int) = c2 := ⟨_, rfl⟩
        have hc2b := prod_in (b := c1) (i := (j : Int)) (B := 1280) (I := 64) (by omega) (by omega) (by omega) (by omega) (by decide)
        rw [hc2] at hc2b
        obtain ⟨hc21, hc22⟩ := hc2b
        obtain ⟨r, hr⟩ : ∃ r, B * ((j : Int) % 7) = r := ⟨_, rfl⟩
        have hrb := prod_in (b := B) (i := (j : Int) % 7) (B := 1000) (I := 6) (by omega) (by omega) (by omega) (by omega) (by decide)
        rw [hr] at hrb
        obtain ⟨hr1, hr2⟩ := hrb
        have HW1 : Hid (wrap64 (B * (j : Int)) = p) := by show _ = _; rw [hp]; exact Go.IntWalk.wrap64_in p (by omega)
        have HW2 : Hid (wrap64 (C * (j : Int)) = c1) := by show _ = _; rw [hc1]; exact Go.IntWalk.wrap64_in c1 (by omega)
        have HW3 : Hid (wrap64 (c1 * (j : Int)) = c2) := by show _ = _; rw [hc2]; exact Go.IntWalk.wrap64_in c2 (by omega)
        have HW4 : Hid (wrap64 (B * ((j : Int) % 7)) = r) := by show _ = _; rw [hr]; exact Go.IntWalk.wrap64_in r (by omega)
        have hend : ∀ (y : Int) (v' : Value) (w' : World), -300000 ≤ y ∧ y ≤ 300000 → Hid (OwnInts w' w.heap.size v' (xs ++ [y])) → Hid (Below w.heap.size wr w') →
            ∃ (j' : Nat) (xs' : List Int), j' ≤ N ∧ Value.int .i64 ((j : Int) + 1) = .int .i64 (j' : Int) ∧ xs'.length ≤ 1000000 ∧ Hid (xs'.length = j') ∧ Hid (∀ x ∈ xs', -300000 ≤ x ∧ x ≤ 300000) ∧ Hid (OwnInts w' w.heap.size v' xs') ∧ Hid (Below w.heap.size w w') := by
          intro y v' w' hy g1 g2
          refine ⟨j + 1, xs ++ [y], by omega, by go_num, by have := HXL.out; simp; omega, by show _ = _; simp [HXL.out], ?_, g1, hb.out.trans g2.out⟩
          intro x hx
          rcases List.mem_append.1 hx with h1 | h1
          · exact hxs.out x h1
          · simp at h1; subst h1; exact hy
        have HEND := hid_of hend
        clear hp hc1 hc2 hr hend
        have hways : (l.length ≤ j) ∨ (j < l.length ∧ z ≤ 0) ∨ (j < l.length ∧ 0 < z) := by omega
        rcases hways with hj1 | ⟨hj1, hj2⟩ | ⟨hj1, hj2⟩
        · rcases hq4 with rfl | rfl | rfl | rfl
          all_goals
            go_wp2_with first
              | (go_at_call_of 5 (Value.int IntKind.i64 kind); refine (within_any kind 4 _ hk1 hk2 (by decide) (by decide)).mono ?_; rw [HQ.out]; rintro e w1 ⟨rfl, rfl⟩)
              | (at_builtin; go_must (refine wpList_append_int _ rfl (.tmp 89) (.tmp 91) 22 rfl w.heap.size i0 Tryz.underlying22 hi hz0 hz1 hz2 _ xs rfl ho.out _ rfl hxl hsz ?_))
            intro v' w' g1 g2
            go_wp2_with fail
            refine ⟨HEND.out _ v' w' ?_ g1 g2, by (simp [intOf]) <;> omega⟩
            first
              | omega
              | (rw [HW1.out, Go.IntWalk.wrap64_in (A + p) (by omega)]; omega)
              | (rw [HW1.out, HW2.out, HW3.out, Go.IntWalk.wrap64_in (p + c2) (by omega), Go.IntWalk.wrap64_in (A + (p + c2)) (by omega)]; omega)
              | (rw [HW4.out, Go.IntWalk.wrap64_in (A + r) (by omega)]; omega)
        · rcases hq4 with rfl | rfl | rfl | rfl
          all_goals
            go_wp2_with first
              | (go_at_call_of 5 (Value.int IntKind.i64 kind); refine (within_any kind 4 _ hk1 hk2 (by decide) (by decide)).mono ?_; rw [HQ.out]; rintro e w1 ⟨rfl, rfl⟩)
              | (at_builtin; go_must (refine wpList_append_int _ rfl (.tmp 89) (.tmp 91) 22 rfl w.heap.size i0 Tryz.underlying22 hi hz0 hz1 hz2 _ xs rfl ho.out _ rfl hxl hsz ?_))
            intro v' w' g1 g2
            go_wp2_with fail
            refine ⟨HEND.out _ v' w' ?_ g1 g2, by (simp [intOf]) <;> omega⟩
            first
              | omega
              | (rw [HW1.out, Go.IntWalk.wrap64_in (A + p) (by omega)]; omega)
              | (rw [HW1.out, HW2.out, HW3.out, Go.IntWalk.wrap64_in (p + c2) (by omega), Go.IntWalk.wrap64_in (A + (p + c2)) (by omega)]; omega)
              | (rw [HW4.out, Go.IntWalk.wrap64_in (A + r) (by omega)]; omega)
        · obtain ⟨x, hx⟩ : ∃ x, l[j]? = some x := ⟨l[j], by simp [hj1]⟩
          obtain ⟨b, off, rfl, hc⟩ := H.out.mono hb.out j x hx
          obtain ⟨hx1, hx2⟩ := HI.out x (List.mem_of_getElem? hx)
          obtain ⟨u, hu⟩ : ∃ u, x % z = u := ⟨_, rfl⟩
          have hu1 := Int.emod_nonneg x (show z ≠ 0 by omega)
          have hu2 := Int.emod_lt_of_pos x hj2
          rw [hu] at hu1 hu2
          have HU := hid_of hu
          clear hx hu
          rcases hq4 with rfl | rfl | rfl | rfl
          all_goals
            go_wp2_with first
              | (go_at_call_of 5 (Value.int IntKind.i64 kind); refine (within_any kind 4 _ hk1 hk2 (by decide) (by decide)).mono ?_; rw [HQ.out]; rintro e w1 ⟨rfl, rfl⟩)
              | (go_at_call_of 5 (Value.int IntKind.i64 x); refine (within_any x z _ hx1 hx2 (by omega) (by omega)).mono ?_; rw [HU.out]; rintro e w1 ⟨rfl, rfl⟩)
              | (at_builtin; go_must (refine wpList_append_int _ rfl (.tmp 89) (.tmp 91) 22 rfl w.heap.size i0 Tryz.underlying22 hi hz0 hz1 hz2 _ xs rfl ho.out _ rfl hxl hsz ?_))
            intro v' w' g1 g2
            go_wp2_with fail
            refine ⟨HEND.out _ v' w' ?_ g1 g2, by (simp [intOf]) <;> omega⟩
            first
              | omega
              | (rw [HW1.out, Go.IntWalk.wrap64_in (A + p) (by omega), Go.IntWalk.wrap64_in (A + p + u) (by omega)]; omega)
              | (rw [HW1.out, HW2.out, HW3.out, Go.IntWalk.wrap64_in (p + c2) (by omega), Go.IntWalk.wrap64_in (A + (p + c2)) (by omega), Go.IntWalk.wrap64_in (A + (p + c2) + u) (by omega)]; omega)
              | (rw [HW4.out, Go.IntWalk.wrap64_in (A + r) (by omega), Go.IntWalk.wrap64_in (A + r + u) (by omega)]; omega)
      · have e : j = N := by omega
        subst e
        go_wp2_with fail
        go_ret
        exact ⟨_, xs, rfl, ho.out, HXL.out, hxs.out, hb.out⟩

end Go.Proofs.YtejgkgnocgplbabGreat

/- Walks over moved, Slow and the document's own sum. -/
namespace Go.Proofs.YtejgkgnocgplbabGreat
set_option linter.unusedVariables false
set_option maxRecDepth 100000
set_option linter.unusedSimpArgs false
open Go.RowKit Dg Cr

/-- A sum as a value. -/
abbrev u32v (v : BitVec 32) : Value := .int .u32 ((v.toNat : Nat) : Int)

theorem u32_val (v : BitVec 32) : v.toNat < 4294967296 := v.isLt
theorem up_num (v : BitVec 32) (x : Nat) (hx : x = v.toNat) : bits BinOp.xor IntKind.u32 ((x : Int) * 2 % 4294967296) ((x : Int) / 2147483648 * 79764919) = (((up v).toNat : Nat) : Int) := by
  have hlt := v.isLt
  rw [← hx] at hlt
  have e1 : (x : Int) * 2 % 4294967296 = ((x * 2 % 4294967296 : Nat) : Int) := by omega
  have e2 : (x : Int) / 2147483648 * 79764919 = ((x / 2147483648 * 79764919 : Nat) : Int) := by omega
  rw [e1, e2, u32_xor_nat _ _ (by omega) (by omega)]
  congr 1
  unfold up
  rw [BitVec.toNat_xor, BitVec.toNat_shiftLeft, BitVec.msb_eq_decide, ← hx, Nat.shiftLeft_eq]
  by_cases h : 2147483648 ≤ x
  · have e3 : x / 2147483648 = 1 := by omega
    simp [h, e3]
  · have e3 : x / 2147483648 = 0 := by omega
    simp [h, e3]
theorem up_num1 (v : BitVec 32) (x : Nat) (hx : x = v.toNat) (h : 2147483648 ≤ x) : bits BinOp.xor IntKind.u32 ((x : Int) * 2 % 4294967296) 79764919 = (((up v).toNat : Nat) : Int) := by
  have h1 := up_num v x hx
  have hlt := v.isLt
  have e : (x : Int) / 2147483648 = 1 := by omega
  rw [e] at h1
  exact h1
theorem up_num0 (v : BitVec 32) (x : Nat) (hx : x = v.toNat) (h : x < 2147483648) : (x : Int) * 2 % 4294967296 = (((up v).toNat : Nat) : Int) := by
  have h1 := up_num v x hx
  have e : (x : Int) / 2147483648 = 0 := by omega
  have e1 : (x : Int) * 2 % 4294967296 = ((x * 2 % 4294967296 : Nat) : Int) := by omega
  rw [e, e1, Int.zero_mul, show (0 : Int) = ((0 : Nat) : Int) from rfl, u32_xor_nat _ _ (by omega) (by omega), Nat.xor_zero] at h1
  rw [e1]; exact h1
theorem up_num0' (v : BitVec 32) (x : Nat) (hx : x = v.toNat) (h : x < 2147483648) : (x : Int) * 2 = (((up v).toNat : Nat) : Int) := by
  rw [← up_num0 v x hx h]; omega
theorem upN_next (j : Nat) (v : BitVec 32) : upN (j + 1) v = up (upN j v) := by rw [← upN_add j 1]; rfl
theorem add_num (v : BitVec 32) (x c : Nat) (hx : x = v.toNat) (hc : c < 256) : bits BinOp.xor IntKind.u32 (x : Int) ((c : Int) * 16777216) = (((v ^^^ (BitVec.ofNat 32 c <<< 24)).toNat : Nat) : Int) := by
  have hlt := v.isLt
  rw [← hx] at hlt
  have e1 : (c : Int) * 16777216 = ((c * 16777216 : Nat) : Int) := by omega
  rw [e1, u32_xor_nat _ _ (by omega) (by omega)]
  congr 1
  rw [BitVec.toNat_xor, ← hx, BitVec.toNat_shiftLeft, BitVec.toNat_ofNat, Nat.shiftLeft_eq]
  congr 1
  omega

set_option maxHeartbeats 400000 in
theorem moved_any (v : BitVec 32) (w : World) :
    Calls Tryz.prog 80 #[u32v v] w fun e w' => e = .returned (u32v (upN 8 v)) ∧ w = w' := by
  go_enter Tryz.func80, Tryz.ntmps80
  go_wp2
  go_loopw [0, 4] (fun s i wr => ∃ j x : Nat, j ≤ 8 ∧ i = .int .i64 j ∧ s = .int .u32 (x : Int) ∧ Hid (x = (upN j v).toNat) ∧ w = wr) (fun _ i _ => 8 - (intOf i).toNat)
  case atStart => exact ⟨0, v.toNat, by omega, rfl, rfl, rfl, rfl⟩
  case round =>
    obtain ⟨j, x, hj, rfl, rfl, hx, rfl⟩ := hrel
    have hx32 : x < 4294967296 := by rw [hx.out]; exact (upN j v).isLt
    by_cases hj8 : j < 8
    · go_wp2
      rw [up_num (upN j v) x hx.out]
      go_roundw
      case rel => exact ⟨j + 1, _, by omega, by go_num, rfl, by rw [upN_next]; rfl, by trivial⟩
      case measure => simp [intOf]; omega
    · have e : j = 8 := by omega
      go_wp2
      go_ret
      rw [hx.out, e]
      exact ⟨rfl, rfl⟩

end Go.Proofs.YtejgkgnocgplbabGreat

/- The table as it lies in memory; New, Made, fill, Once. -/
namespace Go.Proofs.YtejgkgnocgplbabGreat
set_option linter.unusedVariables false
set_option maxRecDepth 100000
set_option linter.unusedSimpArgs false
open Go.RowKit Dg Cr

/-- A row of the table. -/
def rowOf (i : Nat) : BitVec 32 := upN 8 (BitVec.ofNat 32 i <<< 24)
/-- The rows, the first k of them made. -/
def rowsTo (k : Nat) : List Value := (List.range 256).map fun i => if i < k then u32v (rowOf i) else .int .u32 0
/-- The table's cells: done, the lock's two, made, the rows. -/
def tb (done lock made : Int) (k : Nat) : List Value := [.int .u32 done, .int .i32 lock, .int .u32 0, .int .u32 made] ++ rowsTo k

theorem Tryz.zeroTable (w : World) : Sem.run Tryz.prog (zeroValue 68) w = .ok (.agg (tb 0 0 0 0).toArray) w := by kernel_rfl
theorem length_rowsTo (k : Nat) : (rowsTo k).length = 256 := by simp [rowsTo]
theorem length_tb (d l m : Int) (k : Nat) : (tb d l m k).length = 260 := by simp [tb, length_rowsTo]

set_option maxHeartbeats 1000000 in
theorem new_raw (w : World) :
    Calls Tryz.prog 11 #[] w fun e w' => e = .returned (.pointer (some ⟨w.heap.size, 0, none⟩)) ∧ w' = w.alloc (.cells (tb 0 0 0 0).toArray 68) := by
  obtain ⟨Z, hZ⟩ : ∃ Z, Z = (tb 0 0 0 0).toArray := ⟨_, rfl⟩
  have hz : ∀ w, Sem.run Tryz.prog (zeroValue 68) w = .ok (.agg Z) w := fun w => by rw [hZ]; exact Tryz.zeroTable w
  have hs : Z.size = 260 := by rw [hZ]; simp [length_tb]
  have hn : ¬ Z = #[] := fun h => by rw [h] at hs; simp at hs
  have HZ : Hid (Z = (tb 0 0 0 0).toArray) := hZ
  rw [← hZ]
  clear hZ
  go_enter Tryz.func11, Tryz.ntmps11
  go_wp2
  go_ret
  exact ⟨rfl, rfl⟩

/-- The table at block b. -/
def TbIs (w : World) (b : Nat) (d l m : Int) (k : Nat) : Prop := w.heap[b]? = some (.cells (tb d l m k).toArray 68 (0, 0))
theorem TbIs.lt {w : World} {b : Nat} {d l m : Int} {k : Nat} (h : TbIs w b d l m k) : b < w.heap.size := (Array.getElem?_eq_some_iff.1 h).1
theorem TbIs.cell {w : World} {b : Nat} {d l m : Int} {k : Nat} (h : TbIs w b d l m k) (o : Nat) : w.cell? ⟨b, o, none⟩ = (tb d l m k)[o]? := by
  have h' : w.heap[b]? = some (.cells (tb d l m k).toArray 68 (0, 0)) := h
  simp only [World.cell?, h']
  simp
theorem TbIs.froz {w : World} {b : Nat} {d l m : Int} {k : Nat} (h : TbIs w b d l m k) (o : Nat) : w.frozen? ⟨b, o, none⟩ = false := by
  have h' : w.heap[b]? = some (.cells (tb d l m k).toArray 68 (0, 0)) := h
  simp [World.frozen?, h']
theorem TbIs.kept {w w' : World} {b : Nat} {d l m : Int} {k : Nat} {F : Nat → Prop} (h : TbIs w b d l m k) (hk : Kept F w w') (hF : ¬ F b) : TbIs w' b d l m k := by
  show w'.heap[b]? = _
  rw [hk.block b h.lt hF]; exact h
theorem TbIs.set {w : World} {b : Nat} {d l m d' l' m' : Int} {k k' : Nat} (h : TbIs w b d l m k) (o : Nat) (u : Value) (e : (tb d l m k).set o u = tb d' l' m' k') : TbIs (w.setCell ⟨b, o, none⟩ u) b d' l' m' k' := by
  show (w.setCell ⟨b, o, none⟩ u).heap[b]? = _
  rw [heap_setCell_of h u, ← e]
  simp
theorem TbIs.drew {w : World} {b : Nat} {d l m : Int} {k : Nat} (h : TbIs w b d l m k) : TbIs w.drew b d l m k := h
theorem rowsTo_get (k i : Nat) (h : i < 256) : (rowsTo k)[i]? = some (if i < k then u32v (rowOf i) else .int .u32 0) := by simp [rowsTo, h]
theorem tb_row (d l m : Int) (k i : Nat) : (tb d l m k)[4 + i]? = (rowsTo k)[i]? := by
  rw [Nat.add_comm]; rfl
theorem rowsTo_set (k : Nat) (hk : k < 256) : (rowsTo k).set k (u32v (rowOf k)) = rowsTo (k + 1) := by
  apply List.ext_getElem?
  intro i
  rw [List.getElem?_set]
  by_cases hi : i < 256
  · rw [rowsTo_get _ _ hi, rowsTo_get _ _ hi]
    by_cases e : k = i
    · subst e; simp [length_rowsTo, hk]
    · rw [if_neg e]
      by_cases h1 : i < k
      · rw [if_pos h1, if_pos (by omega)]
      · rw [if_neg h1, if_neg (by omega)]
  · rw [if_neg (by omega), List.getElem?_eq_none (by rw [length_rowsTo]; omega), List.getElem?_eq_none (by rw [length_rowsTo]; omega)]
theorem tb_set_row (d l m : Int) (k : Nat) (hk : k < 256) : (tb d l m k).set (4 + k) (u32v (rowOf k)) = tb d l m (k + 1) := by
  unfold tb
  rw [← rowsTo_set k hk, Nat.add_comm]
  rfl
theorem row_num (k : Nat) (hk : k < 256) : (k : Int) * 16777216 = (((BitVec.ofNat 32 k <<< 24).toNat : Nat) : Int) := by
  rw [BitVec.toNat_shiftLeft, BitVec.toNat_ofNat, Nat.shiftLeft_eq]
  omega
theorem row_num' (k : Nat) (hk : k < 256) : IntKind.u32.wrap (IntKind.u32.wrap (k : Int) * 16777216) = (((BitVec.ofNat 32 k <<< 24).toNat : Nat) : Int) := by
  rw [← row_num k hk, IntKind.wrap_u32', IntKind.wrap_u32']
  omega

theorem s_disable (w : World) : (callFunc 101 #[]).run Tryz.prog w = .ok (.value (.tuple #[])) w := run_call_mark0 Tryz.func101 (by kernel_rfl) (by kernel_rfl) (by kernel_rfl) .disable (by kernel_rfl) w
theorem s_enable (w : World) : (callFunc 103 #[]).run Tryz.prog w = .ok (.value (.tuple #[])) w := run_call_mark0 Tryz.func103 (by kernel_rfl) (by kernel_rfl) (by kernel_rfl) .enable (by kernel_rfl) w
theorem s_acquire (a : Addr) (w : World) : (callFunc 104 #[.pointer (some a)]).run Tryz.prog w = .ok (.value (.tuple #[])) w := run_call_marked Tryz.func104 (by kernel_rfl) (by kernel_rfl) (by kernel_rfl) .acquire (by kernel_rfl) a w
theorem s_releaseMerge (a : Addr) (w : World) : (callFunc 106 #[.pointer (some a)]).run Tryz.prog w = .ok (.value (.tuple #[])) w := run_call_marked Tryz.func106 (by kernel_rfl) (by kernel_rfl) (by kernel_rfl) .releaseMerge (by kernel_rfl) a w

/-- '(*sync/atomic.Bool).Store(true)', entered as a deferred call. -/
theorem store_deferred (a : Addr) (x : Value) (u : FrameMode) (w : World) (hc : w.cell? a = some x) (hz : w.frozen? a = false) :
    CallsD Tryz.prog 81 #[.pointer (some a), .bool true] u w fun e u' w' => u' = u ∧ (e = .returned (.tuple #[]) ∧ w' = w.drew.setCell a (.int .u32 1)) := by
  have hc' : w.drew.cell? a = some x := by go_simp
  have hz' : w.drew.frozen? a = false := by go_simp
  have hst := run_call_store (P := Tryz.prog) Tryz.func95 (by kernel_rfl) (by kernel_rfl) (by kernel_rfl) (by kernel_rfl) (k := .u32) (y := 1) hc' hz'
  go_enter_d Tryz.func81, Tryz.ntmps81
  go_wp2
  go_region_calls
  all_goals (go_end0; exact ⟨rfl, rfl⟩)
/-- The same as a plain call. -/
theorem store_plain (a : Addr) (x : Value) (w : World) (hc : w.cell? a = some x) (hz : w.frozen? a = false) :
    Calls Tryz.prog 81 #[.pointer (some a), .bool true] w fun e w' => e = .returned (.tuple #[]) ∧ w' = w.drew.setCell a (.int .u32 1) := by
  have hc' : w.drew.cell? a = some x := by go_simp
  have hz' : w.drew.frozen? a = false := by go_simp
  have hst := run_call_store (P := Tryz.prog) Tryz.func95 (by kernel_rfl) (by kernel_rfl) (by kernel_rfl) (by kernel_rfl) (k := .u32) (y := 1) hc' hz'
  go_enter Tryz.func81, Tryz.ntmps81
  go_wp2
  go_region_calls
  all_goals (go_end0; exact ⟨rfl, rfl⟩)
theorem load_plain (a : Addr) (d : Int) (w : World) (h0 : w.cell? a = some (.int .u32 d)) :
    Calls Tryz.prog 78 #[.pointer (some a)] w fun e w' => e = .returned (.bool (d != 0)) ∧ w = w' := by
  have hl := run_call_load (P := Tryz.prog) Tryz.func92 (by kernel_rfl) (by kernel_rfl) (by kernel_rfl) .u32 (by kernel_rfl) h0
  go_enter Tryz.func78, Tryz.ntmps78
  go_wp2
  go_ret
  exact ⟨rfl, rfl⟩
/-- '(*sync.Mutex).Unlock', entered as a deferred call, the lock held and nobody waiting. -/
theorem unlock_deferred (a : Addr) (u : FrameMode) (w : World) (hc : w.cell? a = some (.int .i32 1)) (hz : w.frozen? a = false) :
    CallsD Tryz.prog 94 #[.pointer (some a)] u w fun e u' w' => u' = u ∧ (e = .returned (.tuple #[]) ∧ w' = w.setCell a (.int .i32 0)) := by
  have hd := s_disable
  have he := s_enable
  have hr := s_releaseMerge
  have hadd := run_call_add (P := Tryz.prog) Tryz.func107 (by kernel_rfl) (by kernel_rfl) (by kernel_rfl) .i32 (by kernel_rfl) (y := -1) (s := 0) hc hz (by simp [go_sem]; rfl)
  have hcv := run_convert_to_unsafe (P := Tryz.prog) (src := 130) (dst := 134) Tryz.underlying130 Tryz.underlying134 (by kernel_rfl) hc
  go_enter_d Tryz.func94, Tryz.ntmps94
  go_wp2
  go_end0
  go_wp2
  all_goals (go_end0; exact ⟨rfl, rfl⟩)
/-- '(*sync.Mutex).Lock', the lock free. -/
theorem lock_free (a : Addr) (w : World) (hc : w.cell? a = some (.int .i32 0)) (hz : w.frozen? a = false) :
    Calls Tryz.prog 93 #[.pointer (some a)] w fun e w' => e = .returned (.tuple #[]) ∧ w' = w.setCell a (.int .i32 1) := by
  have hd := s_disable
  have he := s_enable
  have ha := s_acquire
  have hcas := run_call_cas_hit (P := Tryz.prog) Tryz.func102 (by kernel_rfl) (by kernel_rfl) (by kernel_rfl) .i32 (by kernel_rfl) (y := 1) hc hz
  have hc' : (w.setCell a (.int .i32 1)).cell? a = some (.int .i32 1) := World.cell?_setCell_same w a _ hc
  have hcv := run_convert_to_unsafe (P := Tryz.prog) (src := 130) (dst := 134) Tryz.underlying130 Tryz.underlying134 (by kernel_rfl) hc'
  go_enter Tryz.func93, Tryz.ntmps93
  go_wp2
  first | go_end0 | (simp only [Exit.inBlock, Exit.then]; refine bodyPost_ret (results_none rfl _ _ _) rfl ?_) | refine bodyPost_ret (results_none rfl _ _ _) rfl ?_
  go_wp2
  all_goals (go_end0; exact ⟨rfl, rfl⟩)

set_option maxRecDepth 100000 in
set_option maxHeartbeats 1000000 in
theorem fill_any (w : World) (b : Nat) (d l : Int) (h : TbIs w b d l 0 0) :
    Calls Tryz.prog 61 #[.pointer (some ⟨b, 0, none⟩)] w fun e w' => e = .returned (.tuple #[]) ∧ TbIs w' b d l 1 256 ∧ Kept (fun k => k = b) w w' := by
  have HT0 : Hid (TbIs w b d l 0 0) := h
  clear h
  go_enter Tryz.func61, Tryz.ntmps61
  go_wp2
  go_loopw [3] (fun i wr => ∃ j : Nat, j ≤ 256 ∧ i = .int .i64 j ∧ Hid (TbIs wr b d l 0 j) ∧ Hid (Kept (fun k => k = b) w wr)) (fun i _ => 256 - (intOf i).toNat)
  case atStart => exact ⟨0, by omega, rfl, HT0.out, Kept.refl _ _⟩
  case round =>
    obtain ⟨j, hj, rfl, ht, hk⟩ := hrel
    by_cases hj8 : j < 256
    · have hc : wr.cell? ⟨b, 4 + j, none⟩ = some (.int .u32 0) := by rw [ht.out.cell, tb_row, rowsTo_get _ _ hj8, if_neg (by omega)]
      have hf : wr.frozen? ⟨b, 4 + j, none⟩ = false := ht.out.froz _
      go_wp2
      go_region_with (go_at_call 80; rw [row_num' j hj8]; refine (moved_any _ _).mono ?_; rintro e w1 ⟨rfl, rfl⟩)
      all_goals go_wp2
      all_goals go_roundw
      case rel => exact ⟨j + 1, by omega, by go_num, (ht.out.drew).set _ _ (tb_set_row _ _ _ _ hj8), (hk.out.drew).trans (Kept.setCell _ _ _ rfl)⟩
      case measure => simp [intOf]; omega
    · have e : j = 256 := by omega
      subst e
      have hc : wr.cell? ⟨b, 3, none⟩ = some (.int .u32 0) := by rw [ht.out.cell]; rfl
      have hf : wr.frozen? ⟨b, 3, none⟩ = false := ht.out.froz _
      go_wp2_with (go_at_call 81; refine (store_plain ⟨b, 3, none⟩ _ _ hc hf).mono ?_; rintro e w1 ⟨rfl, rfl⟩)
      go_end0
      exact ⟨rfl, ht.out.drew.set _ _ rfl, (hk.out.drew).trans (Kept.setCell _ _ _ rfl)⟩

theorem lock_tb (w : World) (b : Nat) (d m : Int) (k : Nat) (h : TbIs w b d 0 m k) :
    Calls Tryz.prog 93 #[.pointer (some ⟨b, 1, none⟩)] w fun e w' => e = .returned (.tuple #[]) ∧ TbIs w' b d 1 m k ∧ Kept (fun k => k = b) w w' := by
  refine (lock_free ⟨b, 1, none⟩ w (by rw [h.cell]; rfl) (h.froz _)).mono ?_
  rintro e w' ⟨rfl, rfl⟩
  exact ⟨rfl, h.set _ _ rfl, Kept.setCell _ _ _ rfl⟩
theorem load_tb (w : World) (b : Nat) (d l m : Int) (k : Nat) (h : TbIs w b d l m k) :
    Calls Tryz.prog 78 #[.pointer (some ⟨b, 0, none⟩)] w fun e w' => e = .returned (.bool (d != 0)) ∧ w = w' :=
  load_plain ⟨b, 0, none⟩ d w (by rw [h.cell]; rfl)
theorem made_tb (w : World) (b : Nat) (d l m : Int) (k : Nat) (h : TbIs w b d l m k) :
    Calls Tryz.prog 78 #[.pointer (some ⟨b, 3, none⟩)] w fun e w' => e = .returned (.bool (m != 0)) ∧ w = w' :=
  load_plain ⟨b, 3, none⟩ m w (by rw [h.cell]; rfl)

end Go.Proofs.YtejgkgnocgplbabGreat

/- The table's calls: Once, Add, Sum, Made, New. -/
namespace Go.Proofs.YtejgkgnocgplbabGreat
set_option linter.unusedVariables false
set_option maxRecDepth 100000
set_option linter.unusedSimpArgs false
open Go.RowKit Dg Cr

set_option maxRecDepth 100000 in
set_option maxHeartbeats 1600000 in
theorem doSlow_any (w : World) (b : Nat) (h : TbIs w b 0 0 0 0) :
    Calls Tryz.prog 79 #[.pointer (some ⟨b, 0, none⟩), .func (.func 61) #[.pointer (some ⟨b, 0, none⟩)] #[]] w fun e w' => e = .returned (.tuple #[]) ∧ TbIs w' b 1 0 1 256 ∧ Kept (fun k => k = b) w w' := by
  have HT0 : Hid (TbIs w b 0 0 0 0) := h
  clear h
  have hnot : ∀ (x : Bool) (w : World), (Op.unary .not (.bool x)).run Tryz.prog w = .ok (.bool (!x)) w := fun _ _ => rfl
  go_enter_defers Tryz.func79, Tryz.ntmps79
  go_wp2_with (first
    | (go_at_call 93; refine (lock_tb _ _ _ _ _ HT0.out).mono ?_; rintro e w1 ⟨rfl, ht1, hk1⟩; have HT1 : Hid (TbIs w1 b 0 1 0 0) := ht1; have HK1 : Hid (Kept (fun k => k = b) w w1) := hk1; clear ht1 hk1)
    | (go_at_call 78; refine (load_tb _ _ _ _ _ _ HT1.out).mono ?_; rintro e w2 ⟨rfl, rfl⟩)
    | (go_at_call 61; refine (fill_any _ _ _ _ HT1.out).mono ?_; rintro e w2 ⟨rfl, ht2, hk2⟩; have HT2 : Hid (TbIs w2 b 0 1 1 256) := ht2; have HK2 : Hid (Kept (fun k => k = b) w w2) := HK1.out.trans hk2; clear ht2 hk2))
  go_wp2
  refine leaves_cons (f := 81) (args := #[.pointer (some ⟨b, 0, none⟩), .bool true]) (by simp) (by simp [go_sem]) ?_
  refine (store_deferred ⟨b, 0, none⟩ (.int .u32 0) .returning _ (by rw [HT2.out.cell]; rfl) (HT2.out.froz _)).mono ?_
  rintro e u' w3 ⟨rfl, rfl, rfl⟩
  have HT3 : TbIs (w2.drew.setCell ⟨b, 0, none⟩ (.int .u32 1)) b 1 1 1 256 := HT2.out.drew.set _ _ rfl
  have HK3 : Kept (fun k => k = b) w (w2.drew.setCell ⟨b, 0, none⟩ (.int .u32 1)) := (HK2.out.drew).trans (Kept.setCell _ _ _ rfl)
  refine leaves_cons (f := 94) (args := #[.pointer (some ⟨b, 1, none⟩)]) (by simp [settle]) (by simp [go_sem]) ?_
  refine (unlock_deferred ⟨b, 1, none⟩ _ _ (by rw [HT3.cell]; rfl) (HT3.froz _)).mono ?_
  rintro e u' w4 ⟨rfl, rfl, rfl⟩
  have HT4 : TbIs ((w2.drew.setCell ⟨b, 0, none⟩ (.int .u32 1)).setCell ⟨b, 1, none⟩ (.int .i32 0)) b 1 0 1 256 := HT3.set _ _ rfl
  have HK4 : Kept (fun k => k = b) w ((w2.drew.setCell ⟨b, 0, none⟩ (.int .u32 1)).setCell ⟨b, 1, none⟩ (.int .i32 0)) := HK3.trans (Kept.setCell _ _ _ rfl)
  simp [Leaves, settle, results, Tryz.results79]
  exact ⟨HT4, HK4⟩

/-- A table, made or not. -/
def TbAt (w : World) (b : Nat) (made : Bool) : Prop := if made then TbIs w b 1 0 1 256 else TbIs w b 0 0 0 0
theorem TbAt.kept {w w' : World} {b : Nat} {m : Bool} {F : Nat → Prop} (h : TbAt w b m) (hk : Kept F w w') (hF : ¬ F b) : TbAt w' b m := by
  unfold TbAt at h ⊢
  cases m
  · exact TbIs.kept h hk hF
  · exact TbIs.kept h hk hF
theorem TbAt.lt {w : World} {b : Nat} {m : Bool} (h : TbAt w b m) : b < w.heap.size := by
  unfold TbAt at h
  cases m
  · exact TbIs.lt h
  · exact TbIs.lt h
theorem TbAt.below {w w' : World} {b B : Nat} {m : Bool} (h : TbAt w b m) (hb : Below B w w') (hB : b < B) : TbAt w' b m := by
  have e : w'.heap[b]? = w.heap[b]? := hb.block b hB
  unfold TbAt TbIs at h ⊢
  cases m
  · simp only [Bool.false_eq_true, if_false] at h ⊢; rw [e]; exact h
  · simp only [if_true] at h ⊢; rw [e]; exact h

set_option maxHeartbeats 1000000 in
theorem do_first (w : World) (b : Nat) (h : TbIs w b 0 0 0 0) :
    Calls Tryz.prog 60 #[.pointer (some ⟨b, 0, none⟩), .func (.func 61) #[.pointer (some ⟨b, 0, none⟩)] #[]] w fun e w' => e = .returned (.tuple #[]) ∧ TbIs w' b 1 0 1 256 ∧ Kept (fun k => k = b) w w' := by
  have HT0 : Hid (TbIs w b 0 0 0 0) := h
  clear h
  have hnot : ∀ (x : Bool) (w : World), (Op.unary .not (.bool x)).run Tryz.prog w = .ok (.bool (!x)) w := fun _ _ => rfl
  go_enter Tryz.func60, Tryz.ntmps60
  go_wp2_with (first
    | (go_at_call 78; refine (load_tb _ _ _ _ _ _ HT0.out).mono ?_; rintro e w2 ⟨rfl, rfl⟩)
    | (go_at_call 79; refine (doSlow_any _ _ HT0.out).mono ?_; rintro e w2 ⟨rfl, ht2, hk2⟩; have HT2 : Hid (TbIs w2 b 1 0 1 256) := ht2; have HK2 : Hid (Kept (fun k => k = b) w w2) := hk2; clear ht2 hk2))
  go_end0
  exact ⟨rfl, HT2.out, HK2.out⟩

set_option maxHeartbeats 1000000 in
theorem do_done (w : World) (b : Nat) (fv : Value) (h : TbIs w b 1 0 1 256) :
    Calls Tryz.prog 60 #[.pointer (some ⟨b, 0, none⟩), fv] w fun e w' => e = .returned (.tuple #[]) ∧ w = w' := by
  have HT0 : Hid (TbIs w b 1 0 1 256) := h
  clear h
  have hnot : ∀ (x : Bool) (w : World), (Op.unary .not (.bool x)).run Tryz.prog w = .ok (.bool (!x)) w := fun _ _ => rfl
  go_enter Tryz.func60, Tryz.ntmps60
  go_wp2_with (first
    | (go_at_call 78; refine (load_tb _ _ _ _ _ _ HT0.out).mono ?_; rintro e w2 ⟨rfl, rfl⟩))
  go_end0
  exact ⟨rfl, rfl⟩

theorem do_any (w : World) (b : Nat) (m : Bool) (h : TbAt w b m) :
    Calls Tryz.prog 60 #[.pointer (some ⟨b, 0, none⟩), .func (.func 61) #[.pointer (some ⟨b, 0, none⟩)] #[]] w fun e w' => e = .returned (.tuple #[]) ∧ TbIs w' b 1 0 1 256 ∧ Kept (fun k => k = b) w w' := by
  cases m
  · exact do_first w b h
  · have h' : TbIs w b 1 0 1 256 := h
    refine (do_done w b _ h').mono ?_
    rintro e w' ⟨rfl, rfl⟩
    exact ⟨rfl, h', Kept.refl _ _⟩

theorem add_row (v : BitVec 32) (x c : Nat) (hx : x = v.toNat) (hc : c < 256) : bits BinOp.xor IntKind.u8 ((x : Int) / 16777216) (c : Int) = ((x / 16777216 ^^^ c : Nat) : Int) := by
  have hlt := v.isLt
  have e : (x : Int) / 16777216 = ((x / 16777216 : Nat) : Int) := by omega
  rw [e, u8_xor_nat _ _ (by omega) hc]
theorem row_lt (v : BitVec 32) (x c : Nat) (hx : x = v.toNat) (hc : c < 256) : x / 16777216 ^^^ c < 256 := by
  have hlt := v.isLt
  exact Nat.xor_lt_two_pow (n := 8) (by omega) hc

theorem tab_num (v : BitVec 32) (x c r y : Nat) (hx : x = v.toNat) (hc : c < 256) (hr : r = x / 16777216 ^^^ c) (hy : y = (rowOf r).toNat) :
    bits BinOp.xor IntKind.u32 ((x : Int) * 256 % 4294967296) (y : Int) = (((stepB v c).toNat : Nat) : Int) := by
  have hlt := v.isLt
  rw [← hx] at hlt
  have hr256 := row_lt v x c hx hc
  rw [← hr] at hr256
  have e1 : (x : Int) * 256 % 4294967296 = ((x * 256 % 4294967296 : Nat) : Int) := by omega
  have hy32 : y < 4294967296 := by rw [hy]; exact (rowOf r).isLt
  rw [e1, u32_xor_nat _ _ (by omega) hy32, step_table]
  congr 1
  have e2 : (v >>> 24) ^^^ BitVec.ofNat 32 c = BitVec.ofNat 32 r := by
    apply BitVec.eq_of_toNat_eq
    rw [BitVec.toNat_xor, BitVec.toNat_ushiftRight, ← hx, BitVec.toNat_ofNat, BitVec.toNat_ofNat, Nat.shiftRight_eq_div_pow, Nat.mod_eq_of_lt (show c < 2 ^ 32 by omega), Nat.mod_eq_of_lt (show r < 2 ^ 32 by omega), hr]
  rw [e2, BitVec.toNat_xor, BitVec.toNat_shiftLeft, ← hx, Nat.shiftLeft_eq, hy]
  rfl

set_option maxRecDepth 100000 in
set_option maxHeartbeats 1600000 in
theorem add_full (w : World) (b : Nat) (m : Bool) (v : BitVec 32) (sv : Value) (l : List Nat) (ht : TbAt w b m) (h : SlAt w sv l) (hne : l ≠ []) (hf : ∀ k, sv.ownBlock = some k → k ≠ b) (hl : l.length ≤ 1000000) (h256 : ∀ x ∈ l, x < 256) :
    Calls Tryz.prog 49 #[.pointer (some ⟨b, 0, none⟩), u32v v, sv] w fun e w' => e = .returned (u32v (crc v l)) ∧ TbIs w' b 1 0 1 256 ∧ Kept (fun k => k = b) w w' := by
  have HT0 : Hid (TbAt w b m) := ht
  have HS0 : Hid (SlAt w sv l) := h
  have H2 : Hid (∀ x ∈ l, x < 256) := h256
  have HF : Hid (∀ k, sv.ownBlock = some k → k ≠ b) := hf
  obtain ⟨a1, c1, rfl, hc1⟩ := h
  have hpos : 0 < l.length := List.length_pos_iff.2 hne
  have hl0 : ((l.length : Int) == 0) = false := by simp; omega
  have hmf : ∀ (fn : Fn) (first cap : Array Value) (w : World), (Instr.makeFunc fn first cap).run Tryz.prog w = .ok (.func fn first cap) w := fun _ _ _ _ => rfl
  clear ht hc1 h256 hf hne
  go_enter Tryz.func49, Tryz.ntmps49
  go_wp2_with (go_at_call 60; refine (do_any _ _ _ HT0.out).mono ?_; rintro e w1 ⟨rfl, ht1, hk1⟩; have HT1 : Hid (TbIs w1 b 1 0 1 256) := ht1; have HK1 : Hid (Kept (fun k => k = b) w w1) := hk1; clear ht1 hk1)
  have HS1 : Hid (SlAt w1 (.slice a1 l.length c1) l) := HS0.out.kept HK1.out (fun k h1 h2 => HF.out k h1 h2)
  go_loopw [1, 21] (fun s i wr => ∃ j x : Nat, j ≤ l.length ∧ i = .int .i64 j ∧ s = .int .u32 (x : Int) ∧ Hid (x = (crc v (l.take j)).toNat) ∧ w1 = wr) (fun _ i _ => l.length - (intOf i).toNat)
  case atStart => exact ⟨0, v.toNat, by omega, rfl, rfl, rfl, rfl⟩
  case round =>
    obtain ⟨j, x, hj, rfl, rfl, hx, rfl⟩ := hrel
    have hx32 : x < 4294967296 := by rw [hx.out]; exact BitVec.isLt _
    by_cases hjl : j < l.length
    · have hcc := HS1.out
      obtain ⟨ao, cc, hv, hcell⟩ := hcc
      cases hv
      obtain ⟨b1, o1, rfl, e1⟩ := hcell j l[j] (by simp [hjl])
      clear hcell
      obtain ⟨c, hc⟩ : ∃ c : Nat, c = l[j] := ⟨_, rfl⟩
      have hc256 : c < 256 := by rw [hc]; exact H2.out _ (by simp)
      have HT : Hid (l[j]? = some c) := by show _ = _; rw [hc]; simp [hjl]
      rw [← hc] at e1
      clear hc
      obtain ⟨r, hr⟩ : ∃ r : Nat, r = x / 16777216 ^^^ c := ⟨_, rfl⟩
      have hr256 : r < 256 := by rw [hr]; exact row_lt _ x c hx.out hc256
      have hrow := add_row _ x c hx.out hc256
      rw [← hr] at hrow
      have hcr : w1.cell? ⟨b, 4 + r, none⟩ = some (u32v (rowOf r)) := by rw [HT1.out.cell, tb_row, rowsTo_get _ _ hr256, if_pos hr256]
      obtain ⟨y, hy⟩ : ∃ y : Nat, y = (rowOf r).toNat := ⟨_, rfl⟩
      have hcr' : w1.cell? ⟨b, 4 + r, none⟩ = some (.int .u32 (y : Int)) := by rw [hcr, hy]
      have HR : Hid (r = x / 16777216 ^^^ c) := hr
      have HY : Hid (y = (rowOf r).toNat) := hy
      clear hcr hr hy
      go_wp2
      rw [tab_num _ x c r y hx.out hc256 HR.out HY.out]
      go_roundw
      case rel => exact ⟨j + 1, _, by omega, by go_num, rfl, by rw [crc_take _ _ _ _ HT.out]; rfl, by trivial⟩
      case measure => simp [intOf]; omega
    · have e : j = l.length := by omega
      go_wp2
      go_ret
      rw [hx.out, e, List.take_length]
      exact ⟨rfl, HT1.out, HK1.out⟩

set_option maxHeartbeats 400000 in
theorem add_empty (w : World) (b : Nat) (v : BitVec 32) (a : Option Addr) (c : Nat) :
    Calls Tryz.prog 49 #[.pointer (some ⟨b, 0, none⟩), u32v v, .slice a 0 c] w fun e w' => e = .returned (u32v v) ∧ w = w' := by
  go_enter Tryz.func49, Tryz.ntmps49
  go_wp2
  go_ret
  exact ⟨rfl, rfl⟩

/-- Add: the sum; the table is made behind it, if it was or there is a byte. -/
theorem tadd_any (w : World) (b : Nat) (m : Bool) (v : BitVec 32) (sv : Value) (l : List Nat) (ht : TbAt w b m) (h : SlAt w sv l) (hf : l ≠ [] → ∀ k, sv.ownBlock = some k → k ≠ b) (hl : l.length ≤ 1000000) (h256 : ∀ x ∈ l, x < 256) :
    Calls Tryz.prog 49 #[.pointer (some ⟨b, 0, none⟩), u32v v, sv] w fun e w' => e = .returned (u32v (crc v l)) ∧ TbAt w' b (m || !l.isEmpty) ∧ Kept (fun k => k = b) w w' := by
  by_cases hne : l = []
  · subst hne
    obtain ⟨a1, c1, rfl, hc1⟩ := h
    refine (add_empty w b v a1 c1).mono ?_
    rintro e w' ⟨rfl, rfl⟩
    exact ⟨rfl, by simpa using ht, Kept.refl _ _⟩
  · refine (add_full w b m v sv l ht h hne (hf hne) hl h256).mono ?_
    rintro e w' ⟨rfl, h1, h2⟩
    have e : (m || !l.isEmpty) = true := by cases l with
      | nil => exact absurd rfl hne
      | cons _ _ => simp
    exact ⟨rfl, by rw [e]; exact h1, h2⟩

set_option maxHeartbeats 400000 in
theorem tsum_any (w : World) (b : Nat) (m : Bool) (sv : Value) (l : List Nat) (ht : TbAt w b m) (h : SlAt w sv l) (hf : l ≠ [] → ∀ k, sv.ownBlock = some k → k ≠ b) (hl : l.length ≤ 1000000) (h256 : ∀ x ∈ l, x < 256) :
    Calls Tryz.prog 33 #[.pointer (some ⟨b, 0, none⟩), sv] w fun e w' => e = .returned (u32v (crc ones l)) ∧ TbAt w' b (m || !l.isEmpty) ∧ Kept (fun k => k = b) w w' := by
  have HC : Hid (Calls Tryz.prog 49 #[.pointer (some ⟨b, 0, none⟩), .int .u32 4294967295, sv] w fun e w' => e = .returned (u32v (crc ones l)) ∧ TbAt w' b (m || !l.isEmpty) ∧ Kept (fun k => k = b) w w') := tadd_any w b m ones sv l ht h hf hl h256
  clear ht h hf h256
  go_enter Tryz.func33, Tryz.ntmps33
  go_wp2_with (go_at_call 49; refine HC.out.mono ?_; rintro e w1 ⟨rfl, ht1, hk1⟩; have HT1 : Hid (TbAt w1 b (m || !l.isEmpty)) := ht1; have HK1 : Hid (Kept (fun k => k = b) w w1) := hk1; clear ht1 hk1)
  go_ret
  exact ⟨rfl, HT1.out, HK1.out⟩

theorem tnew_any (w : World) :
    Calls Tryz.prog 11 #[] w fun e w' => e = .returned (.pointer (some ⟨w.heap.size, 0, none⟩)) ∧ TbAt w' w.heap.size false ∧ Below w.heap.size w w' ∧ w.heap.size < w'.heap.size := by
  refine (new_raw w).mono ?_
  rintro e w' ⟨rfl, rfl⟩
  exact ⟨rfl, heap_alloc_new w _, (Below.refl _ _).alloc (Nat.le_refl _) _, by simp⟩

end Go.Proofs.YtejgkgnocgplbabGreat
