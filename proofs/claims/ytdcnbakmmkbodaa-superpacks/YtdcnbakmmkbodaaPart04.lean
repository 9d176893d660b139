/- The texts Crc3, Crc4, Crc5, Sums, Crc6, SealRef, Fld2, Lists, IntsB, Fld3, SuRef1, Each, one behind the other. -/
import Derived.Test.YtdcnbakmmkbodaaPart03
import Derived.Defers
import Derived.Laws.Pointers
import Derived.Laws.LoneSync
import Derived.RegionTactic
import Derived.RegionCalls
import Derived.ChangeAlike
import Derived.Test.YtdcnbakmmkbodaaPart02
import Derived.Laws.AppendOwnNone
import Derived.Laws.IdiomStrings
import Derived.Lib.AppendZeros
import Derived.Test.YtdcnbakmmkbodaaPart01
import Derived.Deep.Matrix
import Derived.Deep.RegionLaw
import Derived.Deep.RegionHeld
import Derived.Deep.CutRange
import Derived.Orders

/- The table as it lies in memory; New, Made, fill, Once. -/
namespace Go.Proofs.Ytdcnbakmmkbodaa
set_option linter.unusedVariables false
set_option maxRecDepth 100000
set_option linter.unusedSimpArgs false
open Go.RowKit Dg Cr

/-- A row of the table. -/
def rowOf (i : Nat) : BitVec 32 := upN 8 (BitVec.ofNat 32 i <<< 24)
/-- The rows, the first k of them made. -/
def rowsTo (k : Nat) : List Value := (List.range 256).map fun i => if i < k then u32v (rowOf i) else .int .u32 0
/-- The table's cells: done, the lock's two, made, the rows. -/
def tb (done lock made : Int) (k : Nat) : List Value := [.int .u32 done, .int .i32 lock, .int .u32 0, .int .u32 made] ++ rowsTo k

theorem length_rowsTo (k : Nat) : (rowsTo k).length = 256 := by simp [rowsTo]
theorem length_tb (d l m : Int) (k : Nat) : (tb d l m k).length = 260 := by simp [tb, length_rowsTo]

theorem rowsTo_get (k i : Nat) (h : i < 256) : (rowsTo k)[i]? = some (if i < k then u32v (rowOf i) else .int .u32 0) := by simp [rowsTo, h]
theorem tb_row (d l m : Int) (k i : Nat) : (tb d l m k)[4 + i]? = (rowsTo k)[i]? := by
  rw [Nat.add_comm]; rfl
theorem rowsTo_set (k : Nat) (hk : k < 256) : (rowsTo k).set k (u32v (rowOf k)) = rowsTo (k + 1) := by
  apply List.ext_getElem?
  intro i
  rw [List.getElem?_set]
  by_cases hi : i < 256
  · rw [rowsTo_get _ _ hi, rowsTo_get _ _ hi]
    by_cases e : k = i
    · subst e; simp [length_rowsTo, hk]
    · rw [if_neg e]
      by_cases h1 : i < k
      · rw [if_pos h1, if_pos (by omega)]
      · rw [if_neg h1, if_neg (by omega)]
  · rw [if_neg (by omega), List.getElem?_eq_none (by rw [length_rowsTo]; omega), List.getElem?_eq_none (by rw [length_rowsTo]; omega)]
theorem tb_set_row (d l m : Int) (k : Nat) (hk : k < 256) : (tb d l m k).set (4 + k) (u32v (rowOf k)) = tb d l m (k + 1) := by
  unfold tb
  rw [← rowsTo_set k hk, Nat.add_comm]
  rfl
theorem row_num (k : Nat) (hk : k < 256) : (k : Int) * 16777216 = (((BitVec.ofNat 32 k <<< 24).toNat : Nat) : Int) := by
  rw [BitVec.toNat_shiftLeft, BitVec.toNat_ofNat, Nat.shiftLeft_eq]
  omega
theorem row_num' (k : Nat) (hk : k < 256) : IntKind.u32.wrap (IntKind.u32.wrap (k : Int) * 16777216) = (((BitVec.ofNat 32 k <<< 24).toNat : Nat) : Int) := by
  rw [← row_num k hk, IntKind.wrap_u32', IntKind.wrap_u32']
  omega

end Go.Proofs.Ytdcnbakmmkbodaa

/- The table's calls: Once, Add, Sum, Made, New. -/
namespace Go.Proofs.Ytdcnbakmmkbodaa
set_option linter.unusedVariables false
set_option maxRecDepth 100000
set_option linter.unusedSimpArgs false
open Go.RowKit Dg Cr

theorem add_row (v : BitVec 32) (x c : Nat) (hx : x = v.toNat) (hc : c < 256) : bits BinOp.xor IntKind.u8 ((x : Int) / 16777216) (c : Int) = ((x / 16777216 ^^^ c : Nat) : Int) := by
  have hlt := v.isLt
  have e : (x : Int) / 16777216 = ((x / 16777216 : Nat) : Int) := by omega
  rw [e, u8_xor_nat _ _ (by omega) hc]
theorem row_lt (v : BitVec 32) (x c : Nat) (hx : x = v.toNat) (hc : c < 256) : x / 16777216 ^^^ c < 256 := by
  have hlt := v.isLt
  exact Nat.xor_lt_two_pow (n := 8) (by omega) hc

theorem tab_num (v : BitVec 32) (x c r y : Nat) (hx : x = v.toNat) (hc : c < 256) (hr : r = x / 16777216 ^^^ c) (hy : y = (rowOf r).toNat) :
    bits BinOp.xor IntKind.u32 ((x : Int) * 256 % 4294967296) (y : Int) = (((stepB v c).toNat : Nat) : Int) := by
  have hlt := v.isLt
  rw [← hx] at hlt
  have hr256 := row_lt v x c hx hc
  rw [← hr] at hr256
  have e1 : (x : Int) * 256 % 4294967296 = ((x * 256 % 4294967296 : Nat) : Int) := by omega
  have hy32 : y < 4294967296 := by rw [hy]; exact (rowOf r).isLt
  rw [e1, u32_xor_nat _ _ (by omega) hy32, step_table]
  congr 1
  have e2 : (v >>> 24) ^^^ BitVec.ofNat 32 c = BitVec.ofNat 32 r := by
    apply BitVec.eq_of_toNat_eq
    rw [BitVec.toNat_xor, BitVec.toNat_ushiftRight, ← hx, BitVec.toNat_ofNat, BitVec.toNat_ofNat, Nat.shiftRight_eq_div_pow, Nat.mod_eq_of_lt (show c < 2 ^ 32 by omega), Nat.mod_eq_of_lt (show r < 2 ^ 32 by omega), hr]
  rw [e2, BitVec.toNat_xor, BitVec.toNat_shiftLeft, ← hx, Nat.shiftLeft_eq, hy]
  rfl

end Go.Proofs.Ytdcnbakmmkbodaa

/- The document's example of sums; copies of bytes; Same at any bytes. -/
namespace Go.Proofs.Ytdcnbakmmkbodaa
set_option linter.unusedVariables false
set_option maxRecDepth 100000
set_option linter.unusedSimpArgs false
open Go.RowKit Dg Cr

theorem wf_u32 {x : Int} (h : (Lit.int .u32 x).wf = true) : 0 ≤ x ∧ x < 4294967296 := by
  simp [Lit.wf, IntKind.min, IntKind.max, IntKind.signed, IntKind.bits] at h
  omega
theorem rsum_at (w : World) (b : Value) (l : List Nat) (x : Nat) (hx : x = (crc ones l).toNat) (h : SlAt w b l) (hl : l.length ≤ 1000000) (h256 : ∀ x ∈ l, x < 256) :
    Calls Try.prog 33 #[b] w fun e w' => e = .returned (.int .u32 (x : Int)) ∧ w = w' := by
  rw [hx]; exact rsum_any w b l h hl h256
theorem slow_at (w : World) (b : Value) (l : List Nat) (x : Nat) (hx : x = (crc ones l).toNat) (h : SlAt w b l) (hl : l.length ≤ 1000000) (h256 : ∀ x ∈ l, x < 256) :
    Calls Try.prog 24 #[b] w fun e w' => e = .returned (.int .u32 (x : Int)) ∧ w = w' := by
  rw [hx]; exact slow_any w b l h hl h256
theorem radd_at (w : World) (s : Nat) (b : Value) (l : List Nat) (x : Nat) (hs : s < 4294967296) (hx : x = (crc (BitVec.ofNat 32 s) l).toNat) (h : SlAt w b l) (hl : l.length ≤ 1000000) (h256 : ∀ x ∈ l, x < 256) :
    Calls Try.prog 36 #[.int .u32 (s : Int), b] w fun e w' => e = .returned (.int .u32 (x : Int)) ∧ w = w' := by
  have e : (BitVec.ofNat 32 s).toNat = s := by rw [BitVec.toNat_ofNat]; omega
  have h1 := radd_any w (BitVec.ofNat 32 s) b l h hl h256
  unfold u32v at h1
  rw [e] at h1
  rw [hx]; exact h1

/-- "123456789" -/
def nine : List Nat := [49, 50, 51, 52, 53, 54, 55, 56, 57]
theorem crc_nine : (crc ones nine).toNat = 58124007 := by decide +kernel
/-- Bytes of a text, as bytes: the row is marked behind its end. -/
theorem run_marked (w : World) (C : Array Value) (n c : Nat) :
    Sem.run Try.prog (convert 26 26 (.slice (some ⟨w.heap.size, 0, none⟩) n c)) (w.alloc (.cells C 5)) = .ok (.slice (some ⟨w.heap.size, 0, none⟩) n c) (w.alloc (.cells C 5 (C.size, C.size + 1))) := by
  have hsh : (w.alloc (.cells C 5)).shape? w.heap.size = some (5, C.size) := by
    unfold World.shape?
    rw [heap_alloc_new]
  have hfr : (w.alloc (.cells C 5)).freeze ⟨w.heap.size, C.size, none⟩ 1 = w.alloc (.cells C 5 (C.size, C.size + 1)) := by
    have hm : ∀ (a : Array Obj) (x : Obj) (f : Obj → Obj), (a.push x).modify a.size f = a.push (f x) := by
      intro a x f
      apply Array.ext
      · simp
      · intro i h1 h2
        simp only [Array.getElem_modify, Array.getElem_push]
        by_cases h : a.size = i
        · subst h
          simp
        · have hi : i < a.size := by simp at h1; omega
          simp [h, hi]
    unfold World.freeze
    rw [if_neg (by decide)]
    show ({ w.alloc (.cells C 5) with heap := (w.heap.push (.cells C 5)).modify w.heap.size _ } : World) = _
    rw [hm]
    rfl
  simp [convert, run_underlying Try.underlying26, run_underlying Try.underlying5, markStringish, hsh]
  exact hfr
theorem nine_at (w : World) : SlAt (w.alloc (.cells #[.int .u8 49, .int .u8 50, .int .u8 51, .int .u8 52, .int .u8 53, .int .u8 54, .int .u8 55, .int .u8 56, .int .u8 57] 5 (9, 10))) (.slice (some ⟨w.heap.size, 0, none⟩) 9 9) nine := by
  refine ⟨some ⟨w.heap.size, 0, none⟩, 9, rfl, fun j x hx => ⟨w.heap.size, 0, rfl, ?_⟩⟩
  have hj : j < 9 := (List.getElem?_eq_some_iff.1 hx).1
  have hr : j = 0 ∨ j = 1 ∨ j = 2 ∨ j = 3 ∨ j = 4 ∨ j = 5 ∨ j = 6 ∨ j = 7 ∨ j = 8 := by omega
  rcases hr with h | h | h | h | h | h | h | h | h <;> subst h <;> simp [nine] at hx <;> subst hx <;> (simp only [World.cell?, heap_alloc_new]; rfl)

end Go.Proofs.Ytdcnbakmmkbodaa

/- CrcSums: the walk of the law. -/
namespace Go.Proofs.Ytdcnbakmmkbodaa
set_option linter.unusedVariables false
set_option linter.unusedSimpArgs false
open Go.RowKit Dg Cr

end Go.Proofs.Ytdcnbakmmkbodaa

/- A sum behind a row; noughts behind a row: appends to rows of the call's own. -/
namespace Go.Proofs.Ytdcnbakmmkbodaa
set_option linter.unusedVariables false
set_option linter.unusedSimpArgs false
open Go.RowKit Dg Cr

/-- The four bytes of a sum in new memory. -/
theorem four_at (w : World) (X : Nat) (hX : X < 4294967296) : SlAt (w.alloc (.cells #[.int .u8 ((X : Int) / 16777216), .int .u8 ((X : Int) / 65536 % 256), .int .u8 ((X : Int) / 256 % 256), .int .u8 ((X : Int) % 256)] 5)) (.slice (some ⟨w.heap.size, 0, none⟩) 4 4) (bytes4 X) := by
  refine ⟨some ⟨w.heap.size, 0, none⟩, 4, rfl, fun j x hx => ⟨w.heap.size, 0, rfl, ?_⟩⟩
  have h0 : ((X / 16777216 % 256 : Nat) : Int) = (X : Int) / 16777216 := by omega
  have h1 : ((X / 65536 % 256 : Nat) : Int) = (X : Int) / 65536 % 256 := by omega
  have h2 : ((X / 256 % 256 : Nat) : Int) = (X : Int) / 256 % 256 := by omega
  have h3 : ((X % 256 : Nat) : Int) = (X : Int) % 256 := by omega
  match j, hx with
  | 0, hx => simp [bytes4] at hx; subst hx; simp only [World.cell?, heap_alloc_new, h0]; rfl
  | 1, hx => simp [bytes4] at hx; subst hx; simp only [World.cell?, heap_alloc_new, h1]; rfl
  | 2, hx => simp [bytes4] at hx; subst hx; simp only [World.cell?, heap_alloc_new, h2]; rfl
  | 3, hx => simp [bytes4] at hx; subst hx; simp only [World.cell?, heap_alloc_new, h3]; rfl

/-- The four bytes of a sum behind a row of the call's own. -/
theorem wpList_append_four (w : World) {ops : Array Oper} {rest : List Oper} {o : Oper} {a : Act} {Q : Exit → Act → World → Prop}
    (hgd : o.guard = none) (s x : Operand) (ho : o.op = .call { callee := .builtin .append, args := #[s, x], argTypes := #[26, 26] })
    (base : Nat) (v : Value) (l : List Nat) (X : Nat) (hs : a.eval s = v) (hown : w.ownsRow base 5 1 v l.length (u8s l)) (hx : a.eval x = .slice (some ⟨w.heap.size, 0, none⟩) 4 4)
    (hX : X < 4294967296) (hl : l.length ≤ 1000) (hbase : base ≤ w.heap.size)
    (h : ∀ g cap w', Hid (w'.ownsRow base 5 1 (.slice (some ⟨g, 0, none⟩) (l.length + 4) cap) (l.length + 4) (u8s (l ++ bytes4 X))) → Hid (Kept (fun k => v.ownBlock = some k) w w') → Hid (base ≤ g ∧ g < w'.heap.size) →
      wpList Try.prog ops Q rest (a.put o.dst (.slice (some ⟨g, 0, none⟩) (l.length + 4) cap)) w') :
    wpList Try.prog ops Q (o :: rest) a (w.alloc (.cells #[.int .u8 ((X : Int) / 16777216), .int .u8 ((X : Int) / 65536 % 256), .int .u8 ((X : Int) / 256 % 256), .int .u8 ((X : Int) % 256)] 5)) := by
  obtain ⟨i0, hi, hz0, hz1, hz2⟩ := info_parts Try.info5
  have e4 : [Value.int .u8 ((X : Int) / 16777216), .int .u8 ((X : Int) / 65536 % 256), .int .u8 ((X : Int) / 256 % 256), .int .u8 ((X : Int) % 256)] = u8s (bytes4 X) := by
    have h0 : ((X / 16777216 % 256 : Nat) : Int) = (X : Int) / 16777216 := by omega
    have h1 : ((X / 65536 % 256 : Nat) : Int) = (X : Int) / 65536 % 256 := by omega
    have h2 : ((X / 256 % 256 : Nat) : Int) = (X : Int) / 256 % 256 := by omega
    have h3 : ((X % 256 : Nat) : Int) = (X : Int) % 256 := by omega
    simp only [u8s, bytes4, List.map_cons, List.map_nil, h0, h1, h2, h3]
  refine wpList_append_mine _ hgd s x 26 ho base 5 i0 (.int .u8 0) 1 1 Try.underlying26 hi hz0 hz1 hz2 rfl (by decide) v l.length (u8s l) hs (hown.alloc _) ⟨w.heap.size, 0, none⟩ 4 4 [.int .u8 ((X : Int) / 16777216), .int .u8 ((X : Int) / 65536 % 256), .int .u8 ((X : Int) / 256 % 256), .int .u8 ((X : Int) % 256)] hx rfl ?c1 ?c2 (by decide) ?b1 ?b2 ?b3 ?_
  case c1 =>
    intro j u hj
    match j, hj with
    | 0, hj => simp at hj; subst hj; simp [Addr.add]
    | 1, hj => simp at hj; subst hj; simp [Addr.add]
    | 2, hj => simp at hj; subst hj; simp [Addr.add]
    | 3, hj => simp at hj; subst hj; simp [Addr.add]
  case c2 => intro u hu; simp at hu; rcases hu with rfl | rfl | rfl | rfl <;> rfl
  case b1 => unfold maxLen; omega
  case b2 => omega
  case b3 => simp; omega
  intro g cap w' h1 h2 h3
  have h1' := h1.out
  rw [e4, ← u8s_append] at h1'
  refine h g cap w' h1' ?_ ⟨(h1'.lt g rfl).1, (h1'.lt g rfl).2⟩
  have hk := Kept.grown h2.out
  exact ⟨hk.os, hk.tape, hk.output, Nat.le_trans (by simp) hk.size, fun k hk' hf => (hk.block k (by simp; omega) hf).trans (Below.heap_alloc w _ k hk')⟩

end Go.Proofs.Ytdcnbakmmkbodaa

/- The document's own Summed. -/
namespace Go.Proofs.Ytdcnbakmmkbodaa
set_option linter.unusedVariables false
set_option linter.unusedSimpArgs false
open Go.RowKit Dg Cr

def lenS : Value → Nat
  | .slice _ n _ => n
  | _ => 0
theorem lit_one (w : World) (x : Nat) : Bs (w.alloc (.cells #[.int .u8 (x : Int)] 5)) (some ⟨w.heap.size, 0, none⟩) 1 [x] :=
  ⟨SlAt.of_owns (own_new w w.heap.size #[.int .u8 (x : Int)] 1 [x] rfl rfl (by decide) (Nat.le_refl _)), Nat.le_refl _, fun e => by cases e⟩

set_option maxRecDepth 100000 in
set_option maxHeartbeats 4000000 in
theorem rsummed_any (w : World) (a : Option Addr) (cap n : Nat) (l : List Nat) (h : Bs w a cap l) (hl : l.length ≤ 500) (hn : n ≤ 500) (h256 : ∀ x ∈ l, x < 256) (F S : List Nat) (hF : F = l ++ List.replicate (n - l.length) 0) (hS : S = F ++ bytes4 (sumN F)) :
    Calls Try.prog 27 #[.slice a l.length cap, .int .i64 (n : Int)] w fun e w' => ∃ g c, e = .returned (.slice (some ⟨g, 0, none⟩) S.length c) ∧ OwnBytes w' w.heap.size (.slice (some ⟨g, 0, none⟩) S.length c) S ∧ Below w.heap.size w w' := by
  have HB := hid_of h
  have H256 := hid_of h256
  have HF := hid_of hF
  have HS := hid_of hS
  clear h h256 hF hS
  go_enter Try.func27, Try.ntmps27
  go_wp2_with (at_builtin; go_must (refine wpList_append_bytes w rfl _ (.tmp 7) rfl w.heap.size (.slice none 0 0) [] rfl (World.ownsRow_nil _ _ _ _) a cap l rfl HB.out (by simp; omega) (Nat.le_refl _) ?_))
  intro v1 w1 h1 h2 h3
  have HO1 : Hid (OwnBytes w1 w.heap.size v1 l) := by simpa using h1
  have HB1 : Hid (Below w.heap.size w w1) := (h2.out.below_of (Below.refl _ _) (fun k hk => by cases hk) (Nat.le_refl _))
  clear h1 h2 h3 HB
  go_wp2_with fail
  go_loopw [5] (fun v wr => ∃ (T : List Nat) (ta : Option Addr) (tc k : Nat), v = .slice ta T.length tc ∧ T.length ≤ 1000 ∧ Hid (T = l ++ List.replicate k 0) ∧ Hid (k = 0 ∨ l.length + k ≤ n) ∧ Hid (OwnBytes wr w.heap.size (.slice ta T.length tc) T) ∧ Hid (Below w.heap.size w wr)) (fun v _ => n - lenS v)
  case atStart =>
    obtain ⟨ta, tc, rfl, -⟩ := SlAt.of_owns HO1.out
    exact ⟨l, ta, tc, 0, rfl, by omega, by show _ = _; simp, .inl rfl, HO1.out, HB1.out⟩
  case round =>
    obtain ⟨T, ta, tc, k, rfl, hT, hTE, hk, ho, hb⟩ := hrel
    have hsz : w.heap.size ≤ wr.heap.size := hb.out.size
    by_cases hTn : T.length < n
    · have HOA : Hid (OwnBytes (wr.alloc (.cells #[.int .u8 ((0 : Nat) : Int)] 5)) w.heap.size (.slice ta T.length tc) T) := World.ownsRow.alloc ho.out _
      have HBA : Hid (Below w.heap.size w (wr.alloc (.cells #[.int .u8 ((0 : Nat) : Int)] 5))) := hb.out.alloc hsz _
      have HLO := hid_of (lit_one wr 0)
      have hsa : w.heap.size ≤ (wr.alloc (.cells #[.int .u8 ((0 : Nat) : Int)] 5)).heap.size := HBA.out.size
      go_wp2_with (at_builtin; go_must (refine wpList_append_bytes (wr.alloc (.cells #[.int .u8 ((0 : Nat) : Int)] 5)) rfl (.tmp 13) (.tmp 14) rfl w.heap.size _ T rfl HOA.out (some ⟨wr.heap.size, 0, none⟩) 1 [0] rfl HLO.out (by simp; omega) hsa ?_))
      intro v' w' g1 g2 g3
      obtain ⟨T', hT'⟩ : ∃ T', T' = T ++ [0] := ⟨_, rfl⟩
      rw [← hT'] at g1
      obtain ⟨ta', tc', rfl, -⟩ := SlAt.of_owns g1.out
      have HLT : Hid (∀ k, (Value.slice ta T.length tc).ownBlock = some k → w.heap.size ≤ k) := fun k hk => (World.ownsRow.lt ho.out k hk).1
      have HB' : Hid (Below w.heap.size w w') := g2.out.below_of HBA.out (fun k hk => HLT.out k hk) hsa
      have hTl : T'.length = T.length + 1 := by rw [hT']; simp
      have hl0 : T.length = l.length + k := by rw [hTE.out]; simp
      have HTE : Hid (T' = l ++ List.replicate (k + 1) 0) := by show _ = _; rw [hT', hTE.out, List.append_assoc, List.replicate_succ']
      have HK : Hid (k + 1 = 0 ∨ l.length + (k + 1) ≤ n) := .inr (by omega)
      have hT1 : T'.length ≤ 1000 := by omega
      have HTL := hid_of hTl
      clear g2 g3 hT' hTl hl0
      go_wp2_with fail
      refine ⟨⟨T', ta', tc', k + 1, rfl, hT1, HTE, HK, g1, HB'⟩, ?_⟩
      show n - T'.length < n - T.length
      have := HTL.out
      omega
    · have HTF : Hid (T = F) := by
        show _ = _
        have h1 := hk.out
        have hl0 : T.length = l.length + k := by rw [hTE.out]; simp
        have e : k = n - l.length := by omega
        rw [HF.out, ← e]
        exact hTE.out
      have HT256 : Hid (∀ x ∈ T, x < 256) := by
        intro x hx
        rw [hTE.out] at hx
        rcases List.mem_append.1 hx with h | h
        · exact H256.out x h
        · have := List.eq_of_mem_replicate h; omega
      obtain ⟨X, hX⟩ : ∃ X, X = (crc ones T).toNat := ⟨_, rfl⟩
      have HX := hid_of hX
      have hX32 : X < 4294967296 := by rw [hX]; exact BitVec.isLt _
      have HSS : Hid (S = T ++ bytes4 X) := by show _ = _; rw [HS.out, ← HTF.out, hX]; rfl
      have HSL : Hid (S.length = T.length + 4) := by show _ = _; rw [HSS.out]; simp
      clear hX
      go_wp2_with fail
      refine (rsum_at wr _ T X HX.out (SlAt.of_owns ho.out) (by omega) HT256.out).mono ?_
      rintro e w3 ⟨rfl, rfl⟩
      go_wp2_with (at_builtin; go_must (refine wpList_append_four _ rfl (.tmp 18) (.tmp 30) rfl w.heap.size _ T X rfl ho.out rfl hX32 (by omega) hsz ?_))
      intro g cp w4 g1 g2 g3
      have HLT : Hid (∀ k, (Value.slice ta T.length tc).ownBlock = some k → w.heap.size ≤ k) := fun k hk => (World.ownsRow.lt ho.out k hk).1
      have HB' : Hid (Below w.heap.size w w4) := g2.out.below_of hb.out (fun k hk => HLT.out k hk) hsz
      have HO' : Hid (OwnBytes w4 w.heap.size (.slice (some ⟨g, 0, none⟩) S.length cp) S) := by
        show World.ownsRow _ _ _ _ _ _ _
        rw [HSL.out, HSS.out]
        exact g1.out
      clear g1 g2 g3
      go_wp2_with fail
      go_ret
      exact ⟨g, cp, by rw [HSL.out]; rfl, HO'.out, HB'.out⟩

end Go.Proofs.Ytdcnbakmmkbodaa

/- The document's example of numbers as bytes; masks; Same at like numbers. -/
namespace Go.Proofs.Ytdcnbakmmkbodaa
set_option linter.unusedVariables false
set_option linter.unusedSimpArgs false
open Go.RowKit Dg

theorem two_at (w : World) (l : List Nat) (hl : l = [2, 1]) : SlAt (w.alloc (.cells #[.int .u8 2, .int .u8 1] 5)) (.slice (some ⟨w.heap.size, 0, none⟩) 2 2) l := by
  subst hl
  refine ⟨some ⟨w.heap.size, 0, none⟩, 2, rfl, fun j x hx => ⟨w.heap.size, 0, rfl, ?_⟩⟩
  match j, hx with
  | 0, hx => simp at hx; subst hx; simp
  | 1, hx => simp at hx; subst hx; simp

theorem wrapN (n : Nat) (hn : n < 9223372036854775808) : IntKind.i64.wrap ((n : Nat) : Int) = (n : Int) := by
  simp [IntKind.wrap, IntKind.bits, IntKind.signed]
  omega
/-- The lowest digits. -/
theorem and_low (v m : Nat) (hv : v < 9223372036854775808) (hm : m ≤ 62) : bits BinOp.and IntKind.i64 (v : Int) ((2 ^ m - 1 : Nat) : Int) = ((v % 2 ^ m : Nat) : Int) := by
  have hp : 2 ^ m ≤ 2 ^ 62 := Nat.pow_le_pow_right (by decide) hm
  have hp2 : (2 : Nat) ^ 62 = 4611686018427387904 := by decide
  have hp0 : 0 < 2 ^ m := Nat.pow_pos (by decide)
  show IntKind.i64.wrap ((BitVec.ofInt 64 ((v : Nat) : Int) &&& BitVec.ofInt 64 ((2 ^ m - 1 : Nat) : Int)).toNat : Int) = _
  rw [BitVec.toNat_and, ofInt_u64 v (by omega), ofInt_u64 (2 ^ m - 1) (by omega), Nat.and_two_pow_sub_one_eq_mod]
  have hlt : v % 2 ^ m < 2 ^ m := Nat.mod_lt _ hp0
  exact wrapN _ (by omega)
theorem mask_eq (m : Nat) (hm : m ≤ 62) : wrap64 (wrap64 (2 ^ m) - 1) = ((2 ^ m - 1 : Nat) : Int) := by
  have hp : 2 ^ m ≤ 2 ^ 62 := Nat.pow_le_pow_right (by decide) hm
  have hp2 : (2 : Nat) ^ 62 = 4611686018427387904 := by decide
  have hp0 : 0 < 2 ^ m := Nat.pow_pos (by decide)
  rw [wrap64_pow m (by omega)]
  generalize 2 ^ m = P at hp hp0 ⊢
  unfold wrap64
  omega

end Go.Proofs.Ytdcnbakmmkbodaa

/- A slice of rows of bytes that came in, as the walks want it. -/
namespace Go.Proofs.Ytdcnbakmmkbodaa
set_option linter.unusedVariables false
set_option linter.unusedSimpArgs false
open Go.ChangeShapes Go.WideShapes Go.ChangeAt Go.RowKit Go.Deep

/-- Rows of bytes that can be read. -/
def RowsAt (w : World) (a : Option Addr) (len : Nat) (A : Nat → Option Addr) (L C : Nat → Nat) (Z : Nat → List Int) : Prop :=
  ∀ r, r < len → ∃ b off, a = some ⟨b, off, none⟩ ∧ b < w.heap.size ∧ w.cell? ⟨b, off + r, none⟩ = some (.slice (A r) (L r) (C r)) ∧ IsRow .u8 w (A r) (L r) (C r) (Z r)

theorem Try.cellsB : Try.prog.cellsOf 26 = 1 := by kernel_rfl
theorem Try.cells5 : Try.prog.cellsOf 5 = 1 := by kernel_rfl
theorem open_rows {H : Type} {enc : TypeId × Value → H} {W : World} {a : Option Addr} {len cap : Nat} {d : DataW H} {p : List MemPlace}
    (h : DataW.Trod enc Try.prog W 0 (fun _ => true) true 37 (.slice a len cap) d p) : ∃ A L C Z, len ≤ maxLen ∧ RowsAt W a len A L C Z := by
  obtain ⟨fuel, hf⟩ := h
  rcases open_int_rows Try.underlying37 Try.underlying26 Try.underlying5 Try.cellsB Try.cells5 hf with ⟨hcs, _⟩ | ⟨x, l, c, A, L, C, Z, hcs, _, hl, hm, _, hrow⟩
  · simp [Value.cells] at hcs
    obtain ⟨rfl, rfl, rfl⟩ := hcs
    exact ⟨fun _ => none, fun _ => 0, fun _ => 0, fun _ => [], by decide, fun r hr => by omega⟩
  · simp [Value.cells] at hcs
    obtain ⟨rfl, rfl, rfl⟩ := hcs
    refine ⟨A, L, C, Z, by omega, fun r hr => ?_⟩
    obtain ⟨h1, h2, h3, h4, h5, h6, h7⟩ := hrow r (by omega)
    have hsp : x.spot = none := by
      have := spot_of_cell (hrow 0 (by omega)).1
      simpa [Addr.add] using this
    obtain ⟨b, off, s⟩ := x
    simp at hsp
    subst hsp
    have hadd : (⟨b, off, none⟩ : Addr).add r = ⟨b, off + r, none⟩ := by simp [Addr.add]
    rw [hadd] at h1
    refine ⟨b, off, rfl, World.block_lt_of_cell? W _ h1, h1, ?_⟩
    cases hA : A r with
    | none =>
      have hC := h6 hA
      have hL : L r = 0 := by omega
      have hZ : Z r = [] := List.eq_nil_of_length_eq_zero (by omega)
      rw [hC, hL, hZ]
      exact .inl ⟨rfl, rfl, rfl, rfl⟩
    | some x' =>
      obtain ⟨_, hcell⟩ := h7 x' hA
      exact .inr ⟨x', rfl, h2, h3, h4, fun i hi => hcell i (by omega), h5⟩

end Go.Proofs.Ytdcnbakmmkbodaa

/- Numbers once more: Same at like numbers; appends to a row of numbers of the call's own, told more closely; parts of such rows. -/
namespace Go.Proofs.Ytdcnbakmmkbodaa
set_option linter.unusedVariables false
set_option linter.unusedSimpArgs false
open Go.RowKit Dg

theorem take_next (zs : List Int) (j : Nat) (y : Int) (h : zs[j]? = some y) : zs.take (j + 1) = zs.take j ++ [y] := by rw [List.take_add_one, h]; rfl
theorem OwnInts.at {w : World} {base n cap : Nat} {a : Option Addr} {l : List Int} (h : OwnInts w base (.slice a n cap) l) : IntsAt w a l := IntsAt.of_owns h
theorem own_lt {w : World} {base n cap : Nat} {a : Option Addr} {l : List Int} (h : OwnInts w base (.slice a n cap) l) : ∀ x, a = some x → x.block < w.heap.size := by
  intro x hx
  subst hx
  exact (World.ownsRow.lt h x.block rfl).2

/-- 'append(z, n)' of one number that was just built: all but its row is as it was. -/
theorem wpList_append_int_mine {P : Program} (w0 : World) {ops : Array Oper} {rest : List Oper} {o : Oper} {a : Act} {Q : Exit → Act → World → Prop}
    (hgd : o.guard = none) (s x : Operand) (t : TypeId) (ho : o.op = .call { callee := .builtin .append, args := #[s, x], argTypes := #[t, t] })
    (base : Nat) (i : TypeInfo) (ht : P.underlying t = some (.slice 3)) (hi : P.info? 3 = some i) (hz : i.zero = some (.int .i64 0)) (hsize : i.size = 1) (hby : i.bytes = 8)
    (v : Value) (l : List Int) (hs : a.eval s = v) (hown : OwnInts w0 base v l) (y : Int) (hx : a.eval x = .slice (some ⟨w0.heap.size, 0, none⟩) 1 1)
    (hl : l.length ≤ 1000000) (hbase : base ≤ w0.heap.size)
    (h : ∀ v' w', OwnInts w' base v' (l ++ [y]) → Kept (fun k => v.ownBlock = some k) w0 w' → (∀ k, v'.ownBlock = some k → v.ownBlock = some k ∨ w0.heap.size ≤ k) → wpList P ops Q rest (a.put o.dst v') w') : wpList P ops Q (o :: rest) a (w0.alloc (.cells #[.int .i64 y] 3)) := by
  refine wpList_append_mine _ hgd s x t ho base 3 i (.int .i64 0) 1 8 ht hi hz hsize hby rfl (by decide) v l.length (i64s l) hs (World.ownsRow.alloc hown _) ⟨w0.heap.size, 0, none⟩ 1 1 [.int .i64 y] hx rfl ?c1 ?c2 (by decide) ?b1 ?b2 ?b3 ?_
  case c1 => intro j u hj; match j, hj with | 0, hj => simp at hj; subst hj; simp [Addr.add]
  case c2 => intro u hu; simp at hu; subst hu; rfl
  case b1 => unfold maxLen; omega
  case b2 => omega
  case b3 => simp; omega
  intro g cap w' H1 HG HN
  refine h _ w' ?_ ((Kept.alloc _ w0 _).trans (Kept.grown HG.out)) ?_
  · show World.ownsRow _ _ _ _ _ _ _
    have := H1.out
    simpa [i64s] using this
  · intro k hk
    simp [Value.ownBlock] at hk
    subst hk
    rcases HN.out with h2 | h2
    · exact .inl h2
    · simp at h2
      exact .inr (by omega)

/-- 'append(z, n)' of one number that was just built, its outcome named. -/
theorem wpList_append_int_as {P : Program} (w0 : World) {ops : Array Oper} {rest : List Oper} {o : Oper} {a : Act} {Q : Exit → Act → World → Prop}
    (hgd : o.guard = none) (s x : Operand) (t : TypeId) (ho : o.op = .call { callee := .builtin .append, args := #[s, x], argTypes := #[t, t] })
    (base : Nat) (i : TypeInfo) (ht : P.underlying t = some (.slice 3)) (hi : P.info? 3 = some i) (hz : i.zero = some (.int .i64 0)) (hsize : i.size = 1) (hby : i.bytes = 8)
    (v : Value) (l us : List Int) (hs : a.eval s = v) (hown : OwnInts w0 base v l) (y : Int) (hus : us = l ++ [y]) (hx : a.eval x = .slice (some ⟨w0.heap.size, 0, none⟩) 1 1)
    (hl : l.length ≤ 1000000) (hbase : base ≤ w0.heap.size)
    (h : ∀ ya yc w', Hid (OwnInts w' base (.slice ya us.length yc) us) → Hid (IntsAt w' ya us) → Hid (Below base w0 w') → wpList P ops Q rest (a.put o.dst (.slice ya us.length yc)) w') : wpList P ops Q (o :: rest) a (w0.alloc (.cells #[.int .i64 y] 3)) := by
  refine wpList_append_int w0 hgd s x t ho base i ht hi hz hsize hby v l hs hown y hx hl hbase ?_
  intro v' w' h1 h2
  rw [← hus] at h1
  obtain ⟨ya, yc, rfl, hy, _⟩ := h1.out.slice
  exact h ya yc w' h1 hy h2

/-- Numbers that can be read, and their room. -/
structure Ns (w : World) (a : Option Addr) (cap : Nat) (l : List Int) : Prop where
  at_ : IntsAt w a l
  le : l.length ≤ cap
  nil : a = none → cap = 0
theorem IntsAt.mono {w w' : World} {a : Option Addr} {l : List Int} (h : IntsAt w a l) (hb : Below w.heap.size w w') : IntsAt w' a l := by
  intro j x hx
  obtain ⟨b, off, rfl, hc⟩ := h j x hx
  refine ⟨b, off, rfl, ?_⟩
  rw [hb.cell (p := ⟨b, off + j, none⟩) (World.block_lt_of_cell? w _ hc)]
  exact hc
theorem Ns.mono {w w' : World} {a : Option Addr} {cap : Nat} {l : List Int} (h : Ns w a cap l) (hb : Below w.heap.size w w') : Ns w' a cap l := ⟨h.at_.mono hb, h.le, h.nil⟩
theorem IntsAt.drewN {w : World} {a : Option Addr} {l : List Int} (h : IntsAt w a l) (n : Nat) : IntsAt (w.drewN n) a l := h
theorem Ns.drewN {w : World} {a : Option Addr} {cap : Nat} {l : List Int} (h : Ns w a cap l) (n : Nat) : Ns (w.drewN n) a cap l := ⟨h.at_.drewN n, h.le, h.nil⟩
theorem OwnInts.mono {w w' : World} {base : Nat} {v : Value} {l : List Int} (h : OwnInts w base v l) (hb : Below w.heap.size w w') : OwnInts w' base v l := h.below hb (fun k hk => (World.ownsRow.lt h k hk).2)
theorem OwnInts.base {w : World} {base base' : Nat} {v : Value} {l : List Int} (h : OwnInts w base v l) (hb : base' ≤ base) : OwnInts w base' v l := ownsRow_base h hb
theorem OwnInts.drewN {w : World} {base : Nat} {v : Value} {l : List Int} (h : OwnInts w base v l) (n : Nat) : OwnInts (w.drewN n) base v l := h
theorem OwnInts.ns {w : World} {base : Nat} {v : Value} {l : List Int} (h : OwnInts w base v l) : ∃ a cap, v = .slice a l.length cap ∧ Ns w a cap l ∧ (a = none ∧ l = [] ∧ cap = 0 ∨ ∃ g, a = some ⟨g, 0, none⟩) ∧ cap ≤ maxLen := by
  have h' := h
  rcases h.2 with ⟨rfl, hn⟩ | ⟨g, cap, cur, rfl, hb, hh, hn, hm, hcs, htake⟩
  · have : l = [] := List.eq_nil_of_length_eq_zero hn
    subst this
    exact ⟨none, 0, rfl, ⟨IntsAt.nil w _, Nat.le_refl _, fun _ => rfl⟩, .inl ⟨rfl, rfl, rfl⟩, by decide⟩
  · exact ⟨some ⟨g, 0, none⟩, cap, rfl, ⟨IntsAt.of_owns h, hn, fun e => by cases e⟩, .inr ⟨g, rfl⟩, hm⟩
/-- A row of numbers that was just built. -/
theorem OwnInts.lit (w : World) (base : Nat) (l : List Int) (n : Nat) (hn : l.length = n) (hb : base ≤ w.heap.size) (hl : n ≤ 1000000) (cs : Array Value) (hcs : cs.toList = i64s l) : OwnInts (w.alloc (.cells cs 3)) base (.slice (some ⟨w.heap.size, 0, none⟩) n n) l := by
  subst hn
  have hs : cs.size = l.length := by have := congrArg List.length hcs; simpa using this
  have := World.ownsRow_lit (e := 3) (size := 1) (base := base) w cs l.length hb (by unfold maxLen; omega) (by omega)
  show World.ownsRow _ _ _ _ _ _ _
  rw [← hcs]
  exact this
theorem slice_ints (a : Option Addr) (n cap k : Nat) (hk : k ≤ cap) (W : World) : (Instr.sliceAt 49 (.slice a n cap) none (some (.int .i64 (k : Int))) none).run Try.prog W = .ok (.slice a k cap) W := by
  obtain ⟨i0, hi, hz0, hz1, hz2⟩ := info_parts Try.info3
  simp [Instr.sliceAt, Instr.slice, Instr.sliceBounds, Instr.sliceBound, asIntOf, run_underlying Try.underlying49, sizeOf, typeInfo, hi, hk]
  cases a <;> simp [Addr.add]
theorem i64s_append (l m : List Int) : i64s (l ++ m) = i64s l ++ i64s m := by simp [i64s]
/-- 'append(s, x...)' of numbers to a row of the call's own. -/
theorem wpList_append_ints (w : World) {ops : Array Oper} {rest : List Oper} {o : Oper} {a : Act} {Q : Exit → Act → World → Prop}
    (hgd : o.guard = none) (s x : Operand) (ho : o.op = .call { callee := .builtin .append, args := #[s, x], argTypes := #[49, 49] })
    (base : Nat) (v : Value) (l : List Int) (hs : a.eval s = v) (hown : OwnInts w base v l) (xa : Option Addr) (xc : Nat) (m : List Int) (hx : a.eval x = .slice xa m.length xc) (hm : Ns w xa xc m)
    (hl : l.length + m.length ≤ 1000000) (hbase : base ≤ w.heap.size)
    (h : ∀ v' w', Hid (OwnInts w' base v' (l ++ m)) → Hid (Kept (fun k => v.ownBlock = some k) w w') → Hid (∀ k, v'.ownBlock = some k → v.ownBlock = some k ∨ w.heap.size ≤ k) → wpList Try.prog ops Q rest (a.put o.dst v') w') : wpList Try.prog ops Q (o :: rest) a w := by
  obtain ⟨i0, hi, hz0, hz1, hz2⟩ := info_parts Try.info3
  have hown' : w.ownsRow base 3 1 v l.length (i64s l) := hown
  cases xa with
  | none =>
    have hc := hm.nil rfl
    have hle := hm.le
    have hm0 : m = [] := List.eq_nil_of_length_eq_zero (by omega)
    subst hm0 hc
    refine wpList_append_own_none hgd s x 49 ho base 3 i0 1 Try.underlying49 hi v l.length (i64s l) hs hown' hx ?_
    refine h v w ?_ (Kept.refl _ _) (fun k hk => .inl hk)
    rw [List.append_nil]; exact hown
  | some ad =>
    have hcell : ∀ j u, (i64s m)[j]? = some u → w.cell? (ad.add j) = some u := by
      intro j u hu
      rw [i64s_get] at hu
      obtain ⟨y, hy, rfl⟩ := Option.map_eq_some_iff.1 hu
      obtain ⟨b, off, e, hc⟩ := hm.at_ j y hy
      cases e
      have hadd : (⟨b, off, none⟩ : Addr).add j = ⟨b, off + j, none⟩ := by simp [Addr.add]
      rw [hadd]
      exact hc
    have hone : ∀ u ∈ i64s m, u.oneCell' = true := by intro u hu; simp [i64s] at hu; obtain ⟨y, _, rfl⟩ := hu; rfl
    by_cases hne : m = []
    · subst hne
      rcases hown'.2 with ⟨hv, hn⟩ | ⟨g, cap, cur, hv, hb, hh, hn, hcm, hcs, htake⟩
      · refine wpList_append_own _ hgd s x 49 ho base 3 i0 (.int .i64 0) 1 8 Try.underlying49 hi hz0 hz1 hz2 rfl (by decide) v l.length (i64s l) hs hown' ad 0 xc [] hx rfl (fun j u hu => by simp at hu) (fun u hu => by simp at hu) (by unfold maxLen; omega) (by omega) hbase ?_
        intro v' w' h1 h2 h3
        have hv' : v' = .slice none 0 0 := h3.2 ⟨hv, rfl⟩
        refine h v' w' ?_ (Kept.grown h2) (fun k hk => by rw [hv'] at hk; cases hk)
        show World.ownsRow _ _ _ _ _ _ _
        simpa [i64s_append] using h1
      · refine wpList_append_fits w hgd s x 49 ho base 3 i0 1 Try.underlying49 hi hz1 g l.length cap (i64s l) (hs.trans hv) (hv ▸ hown') ad 0 xc [] hx rfl (fun j u hu => by simp at hu) (fun u hu => by simp at hu) (by omega) ?_
        intro w' h1 h2
        refine h _ w' ?_ ?_ (fun k hk => .inl ?_)
        · show World.ownsRow _ _ _ _ _ _ _
          simpa [i64s_append] using h1
        · have := Kept.grown h2
          rw [hv]; exact this
        · rw [hv]; exact hk
    · refine wpList_append_mine _ hgd s x 49 ho base 3 i0 (.int .i64 0) 1 8 Try.underlying49 hi hz0 hz1 hz2 rfl (by decide) v l.length (i64s l) hs hown' ad m.length xc (i64s m) hx (by simp) hcell hone (List.length_pos_iff.2 hne) (by unfold maxLen; omega) (by omega) hbase ?_
      intro g cap w' h1 h2 h3
      refine h _ w' ?_ (Kept.grown h2.out) (fun k hk => ?_)
      · show World.ownsRow _ _ _ _ _ _ _
        rw [i64s_append, List.length_append]; exact h1.out
      · simp [Value.ownBlock] at hk
        subst hk
        exact h3.out

/-- 'append(z, n)' of one number that was just built, as one step of a region that draws its order. -/
theorem step_append_int {P : Program} {ops : Array Oper} {o : Oper} {a : Act} (w0 : World) {K : Act → World → Prop} {Q : Exit → Act → World → Prop} {E : Prop}
    (hgd : o.guard = none) (s x : Operand) (t : TypeId) (ho : o.op = .call { callee := .builtin .append, args := #[s, x], argTypes := #[t, t] })
    (base : Nat) (i : TypeInfo) (ht : P.underlying t = some (.slice 3)) (hi : P.info? 3 = some i) (hz : i.zero = some (.int .i64 0)) (hsize : i.size = 1) (hby : i.bytes = 8)
    (v : Value) (l : List Int) (hs : a.eval s = v) (hown : OwnInts w0 base v l) (y : Int) (hx : a.eval x = .slice (some ⟨w0.heap.size, 0, none⟩) 1 1)
    (hl : l.length ≤ 1000000) (hbase : base ≤ w0.heap.size)
    (hK : ∀ v' w', Hid (OwnInts w' base v' (l ++ [y])) → Hid (Below base w0 w') → K (a.put o.dst v') w') :
    if Region.wanted o (yielded ops a.tmps) = true then Oper.wp P o a (w0.alloc (.cells #[.int .i64 y] 3)) K Q else E := by
  have hw : Region.wanted o (yielded ops a.tmps) = true := by simp [Region.wanted, hgd]
  rw [if_pos hw]
  obtain ⟨v', w', hrun, r1, r2, r3⟩ := run_append_own (P := P) (w0.alloc (.cells #[.int .i64 y] 3)) base t o.type 3 i (.int .i64 0) 1 8 ht hi hz hsize hby rfl (by decide) v l.length (i64s l) (World.ownsRow.alloc hown _) ⟨w0.heap.size, 0, none⟩ 1 1 [.int .i64 y] rfl
    (by intro j u hj; match j, hj with | 0, hj => simp at hj; subst hj; simp [Addr.add]) (by intro u hu; simp at hu; subst hu; rfl) (by unfold maxLen; omega) (by omega) (by simp; omega)
  unfold Oper.wp
  simp [execOp, ho, resolve, invoke, builtin, hs, hx, hrun, Result.andThen]
  refine hK v' w' ?_ ?_
  · show World.ownsRow _ _ _ _ _ _ _
    simpa [i64s] using r1
  · exact ((Below.refl base w0).alloc hbase _).grown r2 (by simp; omega) (fun k hk => (World.ownsRow.lt hown k hk).1)

end Go.Proofs.Ytdcnbakmmkbodaa

/- Parts of slices of bytes; rows of bytes behind a row of one's own; Join; Same at like numbers. -/
namespace Go.Proofs.Ytdcnbakmmkbodaa
set_option linter.unusedVariables false
set_option linter.unusedSimpArgs false
open Go.RowKit Dg

/-- Rows of bytes in a slice. -/
def RowsOf (w : World) (a : Option Addr) (R : List ((Option Addr × Nat) × List Nat)) : Prop :=
  ∀ r p, R[r]? = some p → ∃ b off, a = some ⟨b, off, none⟩ ∧ w.cell? ⟨b, off + r, none⟩ = some (.slice p.1.1 p.2.length p.1.2) ∧ Bs w p.1.1 p.1.2 p.2
/-- All rows, one behind the other. -/
def joined (R : List ((Option Addr × Nat) × List Nat)) : List Nat := (R.map (·.2)).flatten
theorem joined_take (R : List ((Option Addr × Nat) × List Nat)) (j : Nat) (p : (Option Addr × Nat) × List Nat) (h : R[j]? = some p) : joined (R.take (j + 1)) = joined (R.take j) ++ p.2 := by
  unfold joined
  rw [List.take_add_one, h]
  simp
theorem joined_le (R : List ((Option Addr × Nat) × List Nat)) (j : Nat) : (joined (R.take j)).length ≤ (joined R).length := by
  have : joined R = joined (R.take j) ++ joined (R.drop j) := by
    unfold joined
    rw [← List.flatten_append, ← List.map_append, List.take_append_drop]
  rw [this]; simp

set_option maxHeartbeats 1000000 in
theorem fjoin_any (w : World) (a : Option Addr) (cap : Nat) (R : List ((Option Addr × Nat) × List Nat)) (h : RowsOf w a R) (hn : R.length ≤ 1000000) (hl : (joined R).length ≤ 1000000) :
    Calls Try.prog 22 #[.slice a R.length cap] w fun e w' => ∃ v, e = .returned v ∧ OwnBytes w' w.heap.size v (joined R) ∧ Below w.heap.size w w' := by
  have HR : Hid (RowsOf w a R) := h
  clear h
  go_enter Try.func22, Try.ntmps22
  go_wp2
  go_loopw [3, 8] (fun v i wr => ∃ j : Nat, j ≤ R.length ∧ i = .int .i64 j ∧ Hid (OwnBytes wr w.heap.size v (joined (R.take j))) ∧ Hid (Below w.heap.size w wr)) (fun _ i _ => R.length - (intOf i).toNat)
  case atStart => exact ⟨0, Nat.zero_le _, rfl, World.ownsRow_nil _ _ _ _, Below.refl _ _⟩
  case round =>
    obtain ⟨j, hj, rfl, ho, hb⟩ := hrel
    by_cases hjn : j < R.length
    · obtain ⟨⟨⟨pa, pc⟩, pl⟩, hp⟩ : ∃ p, R[j]? = some p := ⟨R[j], by simp [hjn]⟩
      obtain ⟨b, off, rfl, hcell, hbs⟩ := HR.out j _ hp
      have hcell' : wr.cell? ⟨b, off + j, none⟩ = some (.slice pa pl.length pc) := by
        rw [hb.out.cell (p := ⟨b, off + j, none⟩) (World.block_lt_of_cell? w _ hcell)]
        exact hcell
      have HBS : Hid (Bs wr pa pc pl) := hbs.below hb.out
      have HJ : Hid (joined (R.take (j + 1)) = joined (R.take j) ++ pl) := joined_take R j _ hp
      have hlen : (joined (R.take j)).length + pl.length ≤ 1000000 := by
        have := joined_le R (j + 1)
        rw [HJ.out] at this
        simp at this
        omega
      have hsz : w.heap.size ≤ wr.heap.size := hb.out.size
      clear hcell hbs hp
      go_wp2_with (at_builtin; go_must (refine wpList_append_bytes _ rfl (.tmp 12) (.tmp 13) rfl w.heap.size _ _ rfl ho.out pa pc pl rfl HBS.out hlen hsz ?_))
      intro v' w' h1 h2 h3
      rw [← HJ.out] at h1
      have HB' : Hid (Below w.heap.size w w') := h2.out.below_of hb.out (fun k hk => (World.ownsRow.lt ho.out k hk).1) hsz
      clear h2 h3
      go_wp2_with fail
      refine ⟨⟨j + 1, by omega, by go_num, h1, HB'⟩, by (simp [intOf]) <;> omega⟩
    · have e : j = R.length := by omega
      subst e
      rw [List.take_length] at ho
      go_wp2_with fail
      go_ret
      exact ⟨_, rfl, ho.out, hb.out⟩


end Go.Proofs.Ytdcnbakmmkbodaa

/- The document's superblocks: join; worlds one behind another. -/
namespace Go.Proofs.Ytdcnbakmmkbodaa
set_option linter.unusedVariables false
set_option linter.unusedSimpArgs false
open Go.RowKit Dg Cr

theorem rjoin_any (w : World) (a : Option Addr) (n cap : Nat) (R : List ((Option Addr × Nat) × List Nat)) (hR : R.length = n) (h : RowsOf w a R) (hn : n ≤ 1000000) (hl : (joined R).length ≤ 1000000) :
    Calls Try.prog 25 #[.slice a n cap] w fun e w' => ∃ v, e = .returned v ∧ OwnBytes w' w.heap.size v (joined R) ∧ Below w.heap.size w w' := by
  subst hR
  have HR : Hid (RowsOf w a R) := h
  clear h
  go_enter Try.func25, Try.ntmps25
  go_wp2
  go_loopw [3, 7] (fun v i wr => ∃ j : Nat, j ≤ R.length ∧ i = .int .i64 j ∧ Hid (OwnBytes wr w.heap.size v (joined (R.take j))) ∧ Hid (Below w.heap.size w wr)) (fun _ i _ => R.length - (intOf i).toNat)
  case atStart => exact ⟨0, Nat.zero_le _, rfl, World.ownsRow_nil _ _ _ _, Below.refl _ _⟩
  case round =>
    obtain ⟨j, hj, rfl, ho, hb⟩ := hrel
    by_cases hjn : j < R.length
    · obtain ⟨⟨⟨pa, pc⟩, pl⟩, hp⟩ : ∃ p, R[j]? = some p := ⟨R[j], by simp [hjn]⟩
      obtain ⟨b, off, rfl, hcell, hbs⟩ := HR.out j _ hp
      have hcell' : wr.cell? ⟨b, off + j, none⟩ = some (.slice pa pl.length pc) := by
        rw [hb.out.cell (p := ⟨b, off + j, none⟩) (World.block_lt_of_cell? w _ hcell)]
        exact hcell
      have HBS : Hid (Bs wr pa pc pl) := hbs.below hb.out
      have HJ : Hid (joined (R.take (j + 1)) = joined (R.take j) ++ pl) := joined_take R j _ hp
      have hlen : (joined (R.take j)).length + pl.length ≤ 1000000 := by
        have := joined_le R (j + 1)
        rw [HJ.out] at this
        simp at this
        omega
      have hsz : w.heap.size ≤ wr.heap.size := hb.out.size
      clear hcell hbs hp
      go_wp2_with (at_builtin; go_must (refine wpList_append_bytes _ rfl (.tmp 10) (.tmp 14) rfl w.heap.size _ _ rfl ho.out pa pc pl rfl HBS.out hlen hsz ?_))
      intro v' w' h1 h2 h3
      rw [← HJ.out] at h1
      have HB' : Hid (Below w.heap.size w w') := h2.out.below_of hb.out (fun k hk => (World.ownsRow.lt ho.out k hk).1) hsz
      clear h2 h3
      go_wp2_with fail
      refine ⟨⟨j + 1, by omega, by go_num, h1, HB'⟩, by (simp [intOf]) <;> omega⟩
    · have e : j = R.length := by omega
      subst e
      rw [List.take_length] at ho
      go_wp2_with fail
      go_ret
      exact ⟨_, rfl, ho.out, hb.out⟩
/-- One world behind another, a literal between them or not. -/
theorem bel_step {A : Nat} {w0 w W w' : World} (h : Below A w0 w) (hA : A ≤ w.heap.size) (hW : W = w ∨ ∃ o, W = w.alloc o) (hb : Below W.heap.size W w') : Below A w0 w' ∧ Below w.heap.size w w' := by
  rcases hW with rfl | ⟨o, rfl⟩
  · exact ⟨h.trans (hb.mono hA), hb⟩
  · have e : w.heap.size ≤ (w.alloc o).heap.size := by simp
    exact ⟨(h.alloc hA o).trans (hb.mono (Nat.le_trans hA e)), ((Below.refl _ _).alloc (Nat.le_refl _) o).trans (hb.mono e)⟩
theorem lit8 (w : World) : Bs (w.alloc (.cells #[.int .u8 111, .int .u8 118, .int .u8 101, .int .u8 114, .int .u8 100, .int .u8 117, .int .u8 98, .int .u8 49] 5)) (some ⟨w.heap.size, 0, none⟩) 8 magicL :=
  ⟨SlAt.of_owns (own_new w w.heap.size #[.int .u8 111, .int .u8 118, .int .u8 101, .int .u8 114, .int .u8 100, .int .u8 117, .int .u8 98, .int .u8 49] 8 magicL rfl rfl (by decide) (Nat.le_refl _)), Nat.le_refl _, fun e => by cases e⟩
theorem Bs.put {w : World} {g : Nat} {N : Nat} (h : w.ownsRow g 5 1 (.slice (some ⟨g, 0, none⟩) 4 4) 4 (u8s (byteN N 4))) : Bs w (some ⟨g, 0, none⟩) 4 (byteN N 4) :=
  ⟨SlAt.of_owns h, by simp [byteN], fun e => by cases e⟩
end Go.Proofs.Ytdcnbakmmkbodaa

/- A region that draws its order, walked operation by operation, each by itself: what each leaves in its slot stays good while the others run; no program. -/
namespace Go.Proofs.Ytdcnbakmmkbodaa
set_option linter.unusedVariables false
set_option linter.unusedSimpArgs false

/-- The operations' results, one of them anew. -/
def upd (vs : Nat → Value) (i : Nat) (v : Value) : Nat → Value := fun k => if k = i then v else vs k
theorem upd_same (vs : Nat → Value) (i : Nat) (v : Value) : upd vs i v i = v := by unfold upd; rw [if_pos rfl]
theorem upd_other (vs : Nat → Value) {i k : Nat} (v : Value) (h : k ≠ i) : upd vs i v k = vs k := by unfold upd; rw [if_neg h]
/-- What an operation must leave. -/
def EachQ (A : (Nat → Value) → Act) (R : Nat → Value → World → Prop) (Le : World → World → Prop) (S : World → Prop) (i : Nat) (vs : Nat → Value) (w : World) : Exit → Act → World → Prop :=
  fun e a' w' => e = .normal ∧ ∃ v, a' = A (upd vs i v) ∧ R i v w' ∧ Le w w' ∧ S w'
/-- What it waits for is good. -/
def EachD (R : Nat → Value → World → Prop) (vs : Nat → Value) (w : World) : List Edge → Prop
  | [] => True
  | e :: r => (Region.binds .any e = true → R e.on (vs e.on) w) ∧ EachD R vs w r
/-- All of them. -/
def EachOp (P : Program) (ops : Array Oper) (A : (Nat → Value) → Act) (R : Nat → Value → World → Prop) (Le : World → World → Prop) (S : World → Prop) : Nat → List Oper → Prop
  | _, [] => True
  | i, o :: rest => (∀ vs w, S w → EachD R vs w o.after.toList → wpList P ops (EachQ A R Le S i vs w) [o] (A vs) w) ∧ EachOp P ops A R Le S (i + 1) rest
/-- Each waits for elder ones alone. -/
def eachLow (l : List Oper) : Bool := (List.range l.length).all fun i => ((l[i]?).map fun o => o.after.all fun e => !Region.binds .any e || decide (e.on < i)).getD true
section
variable {P : Program} {ops : Array Oper} {A : (Nat → Value) → Act} {R : Nat → Value → World → Prop} {Le : World → World → Prop} {S : World → Prop}
theorem EachOp.at : ∀ {l : List Oper} {k i : Nat} {o : Oper}, EachOp P ops A R Le S k l → l[i]? = some o → ∀ vs w, S w → EachD R vs w o.after.toList → wpList P ops (EachQ A R Le S (k + i) vs w) [o] (A vs) w
  | [], _, _, _, _, h => by simp at h
  | o :: rest, k, 0, _, h, e => by cases e; exact h.1
  | o :: rest, k, i + 1, _, h, e => by
    have := EachOp.at (l := rest) (k := k + 1) (i := i) h.2 (by simpa using e)
    rw [show k + (i + 1) = k + 1 + i by omega]
    exact this
theorem EachD.of {vs : Nat → Value} {w : World} : ∀ {l : List Edge}, (∀ e ∈ l, Region.binds .any e = true → R e.on (vs e.on) w) → EachD R vs w l
  | [], _ => trivial
  | e :: r, h => ⟨h e (List.mem_cons_self ..), EachD.of fun e' he => h e' (List.mem_cons_of_mem _ he)⟩
theorem each_wp {o : Oper} {a : Act} {w : World} {K : Act → World → Prop} {Q Qe : Exit → Act → World → Prop} (hQ : ∀ e a w, Qe e a w → e = .normal) (hK : ∀ a w, Qe .normal a w → K a w)
    (h : o.wp P a w (Qe .normal) Qe) : o.wp P a w K Q := by
  unfold Oper.wp at *
  generalize (execOp a.eval o).run P w = r at *
  cases r with
  | ok n w' =>
    cases n <;> simp only [Oper.upon] at h ⊢
    case value => exact hK _ _ h
    case skip => exact hK _ _ h
    case defer => exact hK _ _ h
    case enter => exact Calls.mono h (fun e w'' he => by
      cases e
      · exact hK _ _ he
      · cases hQ _ _ _ he
      · obtain ⟨a', w3, h3⟩ := he; cases hQ _ _ _ h3)
    case row => exact Rows.mono h (fun _ _ he => hK _ _ he)
    all_goals exact h
  | halt x w' =>
    cases x <;> simp only [Oper.upon] at h ⊢
    all_goals first
      | exact h
      | (cases hQ _ _ _ h)
theorem each_op {i : Nat} {o : Oper} {a : Act} {w : World} {K : Act → World → Prop} {Q Qe : Exit → Act → World → Prop} (ho : ops[i]? = some o) (hQ : ∀ e a w, Qe e a w → e = .normal) (hK : ∀ a w, Qe .normal a w → K a w)
    (h : wpList P ops Qe [o] a w) : wpOp P ops Q i K a w := by
  unfold wpOp
  rw [ho]
  unfold wpList at h
  show if Region.wanted o (yielded ops a.tmps) = true then _ else _
  split
  · rename_i hw
    rw [if_pos hw] at h
    rcases h with h | ⟨-, a', w', h⟩
    · exact .inl (each_wp hQ hK h)
    · cases hQ _ _ _ h
  · rename_i hw
    rw [if_neg hw] at h
    exact hK _ _ h
theorem filter_less {p q : Nat → Bool} : ∀ {l : List Nat}, (∀ j, q j = true → p j = true) → ∀ {i : Nat}, i ∈ l → p i = true → q i = false → (l.filter q).length < (l.filter p).length
  | [], _, i, h, _, _ => by cases h
  | x :: l, hpq, i, h, hp, hq => by
    have hle : ∀ l : List Nat, (l.filter q).length ≤ (l.filter p).length := by
      intro l
      induction l with
      | nil => exact Nat.le_refl _
      | cons y l ih =>
        rw [List.filter_cons, List.filter_cons]
        cases hy : q y
        · cases p y <;> simp <;> omega
        · rw [hpq y hy]; simp; exact ih
    rw [List.filter_cons, List.filter_cons]
    by_cases e : x = i
    · rw [e, hp, hq]
      simp
      exact Nat.lt_succ_of_le (hle l)
    · have hm : i ∈ l := by
        rcases List.mem_cons.1 h with h | h
        · exact absurd h.symm e
        · exact h
      have ih := filter_less (l := l) hpq hm hp hq
      cases hy : q x
      · cases p x <;> simp <;> omega
      · rw [hpq x hy]; simp; exact ih
/-- How many have not run. -/
def eachLeft (n : Nat) (listed : Array Bool) : Nat := ((List.range n).filter fun i => !listed.getD i true).length
theorem each_any {Q : Exit → Act → World → Prop} (hstep : EachOp P ops A R Le S 0 ops.toList) (hlow : eachLow ops.toList = true) (hmono : ∀ i v w w', R i v w → Le w w' → R i v w')
    (hend : ∀ vs w, S w → (∀ i, i < ops.size → R i (vs i) w) → Q .normal (A vs) w) :
    ∀ (fuel : Nat) (listed : Array Bool) (vs : Nat → Value) (w : World), eachLeft ops.size listed ≤ fuel → listed.size = ops.size → S w → (∀ i, i < ops.size → listed.getD i true = true → R i (vs i) w) → wpAny P .any ops Q fuel listed (A vs) w := by
  have hfin : ∀ (listed : Array Bool) (vs : Nat → Value) (w : World), listed.size = ops.size → S w → (∀ i, i < ops.size → listed.getD i true = true → R i (vs i) w) → Region.ready .any ops listed = [] → Q .normal (A vs) w := by
    intro listed vs w hsz hS hR hr
    refine hend vs w hS ?_
    have hall : ∀ i, i < ops.size → listed.getD i true = true := by
      intro i
      induction i using Nat.strongRecOn with
      | ind i ih =>
        intro hi
        cases hl : listed.getD i true with
        | true => rfl
        | false =>
          have ho : ops[i]? = some ops[i] := by simp [hi]
          have hm : i ∈ Region.ready .any ops listed := mem_ready.2 ⟨hl, ops[i], ho, fun e he hb => by
            have h1 : eachLow ops.toList = true := hlow
            unfold eachLow at h1
            rw [List.all_eq_true] at h1
            have h2 := h1 i (by simpa using hi)
            have h3 : (ops.toList)[i]? = some ops[i] := by simp [hi]
            rw [h3] at h2
            simp only [Option.map_some, Option.getD_some] at h2
            have h4 := Array.all_eq_true_iff_forall_mem.1 h2 e he
            rw [hb] at h4
            have h5 : e.on < i := by simpa using h4
            have h6 := ih e.on h5 (by omega)
            have h7 : e.on < listed.size := by omega
            simp [h7] at h6 ⊢
            exact h6⟩
          rw [hr] at hm
          cases hm
    exact fun i hi => hR i hi (hall i hi)
  intro fuel
  induction fuel with
  | zero =>
    intro listed vs w hc hsz hS hR
    have hr : Region.ready .any ops listed = [] := by
      cases h : Region.ready .any ops listed with
      | nil => rfl
      | cons i r =>
        have hi : i ∈ Region.ready .any ops listed := by rw [h]; exact List.mem_cons_self ..
        obtain ⟨h0, o, ho, -⟩ := mem_ready.1 hi
        have hm : i ∈ (List.range ops.size).filter fun i => !listed.getD i true := by
          rw [List.mem_filter, List.mem_range]
          exact ⟨(Array.getElem?_eq_some_iff.1 ho).1, by rw [h0]; rfl⟩
        unfold eachLeft at hc
        have := List.length_pos_of_mem hm
        omega
    exact ⟨hr, hfin listed vs w hsz hS hR hr⟩
  | succ fuel ih =>
    intro listed vs w hc hsz hS hR
    refine ⟨hfin listed vs w hsz hS hR, fun i hi => ?_⟩
    obtain ⟨h0, o, ho, hall⟩ := mem_ready.1 hi
    have hin : i < ops.size := (Array.getElem?_eq_some_iff.1 ho).1
    have hD : EachD R vs w o.after.toList := EachD.of fun e he hb => by
      have h1 := hall e (by simpa using he) hb
      have hlt : e.on < listed.size := by
        rcases Nat.lt_or_ge e.on listed.size with h' | h'
        · exact h'
        · simp [Array.getElem?_eq_none h'] at h1
      refine hR e.on (by omega) ?_
      simp [hlt] at h1 ⊢
      exact h1
    have hs := EachOp.at hstep (i := i) (by simpa using ho) vs w hS hD
    rw [Nat.zero_add] at hs
    refine each_op ho (fun e a w h => h.1) (fun a' w' h => ?_) hs
    obtain ⟨-, v, rfl, hv, hle, hS'⟩ := h
    refine ih (listed.setIfInBounds i true) (upd vs i v) w' ?_ (by simpa using hsz) hS' (fun j hj hl => ?_)
    · have hlt := filter_less (p := fun j => !listed.getD j true) (q := fun j => !(listed.setIfInBounds i true).getD j true) (l := List.range ops.size) (fun j h => by
        by_cases e : i = j
        · subst e; simp [hsz, hin] at h
        · rw [getD_set_ne true e] at h; exact h) (i := i) (List.mem_range.2 hin) (by rw [h0]; rfl) (by simp [hsz, hin])
      unfold eachLeft at hc ⊢
      omega
    · by_cases e : j = i
      · subst e; rw [upd_same]; exact hv
      · rw [upd_other vs v e]
        refine hmono j _ w w' (hR j hj ?_) hle
        rw [getD_set_ne true (fun h => e h.symm)] at hl
        exact hl
/-- A region that draws its order. -/
theorem wp_region_each {id : Nat} {Q : Exit → Act → World → Prop} {a : Act} {w : World} {l : List Oper} (A : (Nat → Value) → Act) (vs : Nat → Value) (R : Nat → Value → World → Prop) (Le : World → World → Prop) (S : World → Prop) (hm : P.follows .mixedOrders = true) (ha : a = A vs)
    (hlow : eachLow l = true) (hS : S w.drew) (hmono : ∀ i v w w', R i v w → Le w w' → R i v w') (hstep : EachOp P l.toArray A R Le S 0 l)
    (hend : ∀ vs w, S w → (∀ i, i < l.length → R i (vs i) w) → Q .normal (A vs) w) : (Code.region id l.toArray true).wp P Q a w := by
  subst ha
  refine wp_region_any hm (each_any (A := A) (R := R) (Le := Le) (S := S) (by simpa using hstep) (by simpa using hlow) hmono (fun vs w h1 h2 => hend vs w h1 (by simpa using h2)) _ _ vs _ ?_ (by simp) hS (fun i hi hl => ?_))
  · unfold eachLeft
    refine Nat.le_trans (List.length_filter_le _ _) ?_
    simp
  · have hi' : i < l.length := by simpa using hi
    simp [hi'] at hl
end

end Go.Proofs.Ytdcnbakmmkbodaa
