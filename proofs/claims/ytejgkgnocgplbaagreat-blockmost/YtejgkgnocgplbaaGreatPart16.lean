/- The texts Crc2, Crc3, Crc4, Crc5, BlkS, DecMost, one behind the other. -/
import Derived.Test.YtejgkgnocgplbaaGreatPart05
import Derived.Test.YtejgkgnocgplbaaGreatPart14
import Derived.Laws.BitsAll
import Derived.Defers
import Derived.Laws.Pointers
import Derived.Laws.LoneSync
import Derived.RegionTactic
import Derived.RegionCalls
import Derived.ChangeAlike
import Derived.Test.YtejgkgnocgplbaaGreatPart12
import Derived.Laws.AppendOwnNone
import Derived.Laws.IdiomStrings
import Derived.Test.YtejgkgnocgplbaaGreatPart15
import Derived.Laws.BytesArg
import Derived.Test.YtejgkgnocgplbaaGreatPart13

/- Walks over moved, Slow and the document's own sum. -/
namespace Go.Proofs.YtejgkgnocgplbaaGreat
set_option linter.unusedVariables false
set_option maxRecDepth 100000
set_option linter.unusedSimpArgs false
open Go.RowKit Dg Cr

/-- A sum as a value. -/
abbrev u32v (v : BitVec 32) : Value := .int .u32 ((v.toNat : Nat) : Int)

theorem u32_val (v : BitVec 32) : v.toNat < 4294967296 := v.isLt
theorem up_num (v : BitVec 32) (x : Nat) (hx : x = v.toNat) : bits BinOp.xor IntKind.u32 ((x : Int) * 2 % 4294967296) ((x : Int) / 2147483648 * 79764919) = (((up v).toNat : Nat) : Int) := by
  have hlt := v.isLt
  rw [← hx] at hlt
  have e1 : (x : Int) * 2 % 4294967296 = ((x * 2 % 4294967296 : Nat) : Int) := by omega
  have e2 : (x : Int) / 2147483648 * 79764919 = ((x / 2147483648 * 79764919 : Nat) : Int) := by omega
  rw [e1, e2, u32_xor_nat _ _ (by omega) (by omega)]
  congr 1
  unfold up
  rw [BitVec.toNat_xor, BitVec.toNat_shiftLeft, BitVec.msb_eq_decide, ← hx, Nat.shiftLeft_eq]
  by_cases h : 2147483648 ≤ x
  · have e3 : x / 2147483648 = 1 := by omega
    simp [h, e3]
  · have e3 : x / 2147483648 = 0 := by omega
    simp [h, e3]
theorem up_num1 (v : BitVec 32) (x : Nat) (hx : x = v.toNat) (h : 2147483648 ≤ x) : bits BinOp.xor IntKind.u32 ((x : Int) * 2 % 4294967296) 79764919 = (((up v).toNat : Nat) : Int) := by
  have h1 := up_num v x hx
  have hlt := v.isLt
  have e : (x : Int) / 2147483648 = 1 := by omega
  rw [e] at h1
  exact h1
theorem up_num0 (v : BitVec 32) (x : Nat) (hx : x = v.toNat) (h : x < 2147483648) : (x : Int) * 2 % 4294967296 = (((up v).toNat : Nat) : Int) := by
  have h1 := up_num v x hx
  have e : (x : Int) / 2147483648 = 0 := by omega
  have e1 : (x : Int) * 2 % 4294967296 = ((x * 2 % 4294967296 : Nat) : Int) := by omega
  rw [e, e1, Int.zero_mul, show (0 : Int) = ((0 : Nat) : Int) from rfl, u32_xor_nat _ _ (by omega) (by omega), Nat.xor_zero] at h1
  rw [e1]; exact h1
theorem up_num0' (v : BitVec 32) (x : Nat) (hx : x = v.toNat) (h : x < 2147483648) : (x : Int) * 2 = (((up v).toNat : Nat) : Int) := by
  rw [← up_num0 v x hx h]; omega
theorem upN_next (j : Nat) (v : BitVec 32) : upN (j + 1) v = up (upN j v) := by rw [← upN_add j 1]; rfl
theorem add_num (v : BitVec 32) (x c : Nat) (hx : x = v.toNat) (hc : c < 256) : bits BinOp.xor IntKind.u32 (x : Int) ((c : Int) * 16777216) = (((v ^^^ (BitVec.ofNat 32 c <<< 24)).toNat : Nat) : Int) := by
  have hlt := v.isLt
  rw [← hx] at hlt
  have e1 : (c : Int) * 16777216 = ((c * 16777216 : Nat) : Int) := by omega
  rw [e1, u32_xor_nat _ _ (by omega) (by omega)]
  congr 1
  rw [BitVec.toNat_xor, ← hx, BitVec.toNat_shiftLeft, BitVec.toNat_ofNat, Nat.shiftLeft_eq]
  congr 1
  omega

set_option maxHeartbeats 400000 in
theorem moved_any (v : BitVec 32) (w : World) :
    Calls Tryz.prog 141 #[u32v v] w fun e w' => e = .returned (u32v (upN 8 v)) ∧ w = w' := by
  go_enter Tryz.func141, Tryz.ntmps141
  go_wp2
  go_loopw [0, 4] (fun s i wr => ∃ j x : Nat, j ≤ 8 ∧ i = .int .i64 j ∧ s = .int .u32 (x : Int) ∧ Hid (x = (upN j v).toNat) ∧ w = wr) (fun _ i _ => 8 - (intOf i).toNat)
  case atStart => exact ⟨0, v.toNat, by omega, rfl, rfl, rfl, rfl⟩
  case round =>
    obtain ⟨j, x, hj, rfl, rfl, hx, rfl⟩ := hrel
    have hx32 : x < 4294967296 := by rw [hx.out]; exact (upN j v).isLt
    by_cases hj8 : j < 8
    · go_wp2
      rw [up_num (upN j v) x hx.out]
      go_roundw
      case rel => exact ⟨j + 1, _, by omega, by go_num, rfl, by rw [upN_next]; rfl, by trivial⟩
      case measure => simp [intOf]; omega
    · have e : j = 8 := by omega
      go_wp2
      go_ret
      rw [hx.out, e]
      exact ⟨rfl, rfl⟩

set_option maxHeartbeats 1000000 in
theorem radd_any (w : World) (v : BitVec 32) (b : Value) (l : List Nat) (h : SlAt w b l) (hl : l.length ≤ 1000000) (h256 : ∀ x ∈ l, x < 256) :
    Calls Tryz.prog 83 #[u32v v, b] w fun e w' => e = .returned (u32v (crc v l)) ∧ w = w' := by
  obtain ⟨a1, c1, rfl, hc1⟩ := h
  have H1 : Hid (∀ j x, l[j]? = some x → ∃ b off, a1 = some ⟨b, off, none⟩ ∧ w.cell? ⟨b, off + j, none⟩ = some (.int .u8 ((x : Nat) : Int))) := hc1
  have H2 : Hid (∀ x ∈ l, x < 256) := h256
  clear hc1 h256
  go_enter Tryz.func83, Tryz.ntmps83
  go_wp2
  go_loopw [0, 10] (fun s i wr => ∃ j x : Nat, j ≤ l.length ∧ i = .int .i64 j ∧ s = .int .u32 (x : Int) ∧ Hid (x = (crc v (l.take j)).toNat) ∧ w = wr) (fun _ i _ => l.length - (intOf i).toNat)
  case atStart => exact ⟨0, v.toNat, by omega, rfl, rfl, rfl, rfl⟩
  case round =>
    obtain ⟨j, x, hj, rfl, rfl, hx, rfl⟩ := hrel
    have hx32 : x < 4294967296 := by rw [hx.out]; exact BitVec.isLt _
    by_cases hjl : j < l.length
    · obtain ⟨b1, o1, rfl, e1⟩ := H1.out j l[j] (by simp [hjl])
      obtain ⟨c, hc⟩ : ∃ c : Nat, c = l[j] := ⟨_, rfl⟩
      have hc256 : c < 256 := by rw [hc]; exact H2.out _ (by simp)
      have HT : Hid (l[j]? = some c) := by show _ = _; rw [hc]; simp [hjl]
      rw [← hc] at e1
      clear hc
      have hjlb : decide (j < l.length) = true := by simp [hjl]
      obtain ⟨y, hy⟩ : ∃ y : BitVec 32, y = crc v (l.take j) ^^^ (BitVec.ofNat 32 c <<< 24) := ⟨_, rfl⟩
      have HY : Hid (y = crc v (l.take j) ^^^ (BitVec.ofNat 32 c <<< 24)) := hy
      have HA := add_num (crc v (l.take j)) x c hx.out hc256
      rw [← hy] at HA
      have HA' : Hid (bits BinOp.xor IntKind.u32 (x : Int) ((c : Int) * 16777216) = ((y.toNat : Nat) : Int)) := HA
      clear hy HA
      go_wp2
      rw [HA'.out]
      go_loopw [0, 6] (fun s i wr => ∃ k z : Nat, k ≤ 8 ∧ i = .int .i64 k ∧ s = .int .u32 (z : Int) ∧ Hid (z = (upN k y).toNat) ∧ w = wr) (fun _ i _ => 8 - (intOf i).toNat)
      case atStart => exact ⟨0, y.toNat, by omega, rfl, rfl, rfl, rfl⟩
      case round =>
        obtain ⟨k, z, hk, rfl, rfl, hz, rfl⟩ := hrel
        have hz32 : z < 4294967296 := by rw [hz.out]; exact BitVec.isLt _
        by_cases hk8 : k < 8
        · have hkb : decide (k < 8) = true := by simp [hk8]
          by_cases hz1 : 2147483648 ≤ z
          · have hz2 : (z : Int) / 2147483648 = 1 := by omega
            go_wp2
            rw [up_num1 (upN k y) z hz.out hz1]
            go_roundw
            case rel => exact ⟨k + 1, _, by omega, by go_num, rfl, by rw [upN_next]; rfl, by trivial⟩
            case measure => simp [intOf]; omega
          · have hz2 : (z : Int) / 2147483648 = 0 := by omega
            go_wp2
            rw [up_num0' (upN k y) z hz.out (by omega)]
            go_roundw
            case rel => exact ⟨k + 1, _, by omega, by go_num, rfl, by rw [upN_next]; rfl, by trivial⟩
            case measure => simp [intOf]; omega
        · have e : k = 8 := by omega
          go_wp2
          go_roundw
          case rel => exact ⟨j + 1, _, by omega, by go_num, rfl, by show _ = _; rw [crc_take _ _ _ _ HT.out, hz.out, e, HY.out]; rfl, by trivial⟩
          case measure => simp [intOf]; omega
    · have e : j = l.length := by omega
      go_wp2
      go_ret
      rw [hx.out, e, List.take_length]
      exact ⟨rfl, rfl⟩

theorem rsum_any (w : World) (b : Value) (l : List Nat) (h : SlAt w b l) (hl : l.length ≤ 1000000) (h256 : ∀ x ∈ l, x < 256) :
    Calls Tryz.prog 59 #[b] w fun e w' => e = .returned (u32v (crc ones l)) ∧ w = w' := by
  have HS : Hid (SlAt w b l) := h
  have H2 : Hid (∀ x ∈ l, x < 256) := h256
  have e1 : Value.int .u32 4294967295 = u32v ones := rfl
  have HE : Hid (Value.int .u32 4294967295 = u32v ones) := e1
  clear h h256 e1
  go_enter Tryz.func59, Tryz.ntmps59
  go_wp2_with (go_at_call 83; rw [HE.out]; refine (radd_any w ones b l HS.out hl H2.out).mono ?_; rintro e w1 ⟨rfl, rfl⟩)
  go_ret
  exact ⟨rfl, rfl⟩

end Go.Proofs.YtejgkgnocgplbaaGreat

/- The table as it lies in memory; New, Made, fill, Once. -/
namespace Go.Proofs.YtejgkgnocgplbaaGreat
set_option linter.unusedVariables false
set_option maxRecDepth 100000
set_option linter.unusedSimpArgs false
open Go.RowKit Dg Cr

/-- A row of the table. -/
def rowOf (i : Nat) : BitVec 32 := upN 8 (BitVec.ofNat 32 i <<< 24)
/-- The rows, the first k of them made. -/
def rowsTo (k : Nat) : List Value := (List.range 256).map fun i => if i < k then u32v (rowOf i) else .int .u32 0
/-- The table's cells: done, the lock's two, made, the rows. -/
def tb (done lock made : Int) (k : Nat) : List Value := [.int .u32 done, .int .i32 lock, .int .u32 0, .int .u32 made] ++ rowsTo k

theorem Tryz.zeroTable (w : World) : Sem.run Tryz.prog (zeroValue 86) w = .ok (.agg (tb 0 0 0 0).toArray) w := by kernel_rfl
theorem length_rowsTo (k : Nat) : (rowsTo k).length = 256 := by simp [rowsTo]
theorem length_tb (d l m : Int) (k : Nat) : (tb d l m k).length = 260 := by simp [tb, length_rowsTo]

set_option maxHeartbeats 1000000 in
theorem new_raw (w : World) :
    Calls Tryz.prog 27 #[] w fun e w' => e = .returned (.pointer (some ⟨w.heap.size, 0, none⟩)) ∧ w' = w.alloc (.cells (tb 0 0 0 0).toArray 86) := by
  obtain ⟨Z, hZ⟩ : ∃ Z, Z = (tb 0 0 0 0).toArray := ⟨_, rfl⟩
  have hz : ∀ w, Sem.run Tryz.prog (zeroValue 86) w = .ok (.agg Z) w := fun w => by rw [hZ]; exact Tryz.zeroTable w
  have hs : Z.size = 260 := by rw [hZ]; simp [length_tb]
  have hn : ¬ Z = #[] := fun h => by rw [h] at hs; simp at hs
  have HZ : Hid (Z = (tb 0 0 0 0).toArray) := hZ
  rw [← hZ]
  clear hZ
  go_enter Tryz.func27, Tryz.ntmps27
  go_wp2
  go_ret
  exact ⟨rfl, rfl⟩

/-- The table at block b. -/
def TbIs (w : World) (b : Nat) (d l m : Int) (k : Nat) : Prop := w.heap[b]? = some (.cells (tb d l m k).toArray 86 (0, 0))
theorem TbIs.lt {w : World} {b : Nat} {d l m : Int} {k : Nat} (h : TbIs w b d l m k) : b < w.heap.size := (Array.getElem?_eq_some_iff.1 h).1
theorem TbIs.cell {w : World} {b : Nat} {d l m : Int} {k : Nat} (h : TbIs w b d l m k) (o : Nat) : w.cell? ⟨b, o, none⟩ = (tb d l m k)[o]? := by
  have h' : w.heap[b]? = some (.cells (tb d l m k).toArray 86 (0, 0)) := h
  simp only [World.cell?, h']
  simp
theorem TbIs.froz {w : World} {b : Nat} {d l m : Int} {k : Nat} (h : TbIs w b d l m k) (o : Nat) : w.frozen? ⟨b, o, none⟩ = false := by
  have h' : w.heap[b]? = some (.cells (tb d l m k).toArray 86 (0, 0)) := h
  simp [World.frozen?, h']
theorem TbIs.kept {w w' : World} {b : Nat} {d l m : Int} {k : Nat} {F : Nat → Prop} (h : TbIs w b d l m k) (hk : Kept F w w') (hF : ¬ F b) : TbIs w' b d l m k := by
  show w'.heap[b]? = _
  rw [hk.block b h.lt hF]; exact h
theorem TbIs.set {w : World} {b : Nat} {d l m d' l' m' : Int} {k k' : Nat} (h : TbIs w b d l m k) (o : Nat) (u : Value) (e : (tb d l m k).set o u = tb d' l' m' k') : TbIs (w.setCell ⟨b, o, none⟩ u) b d' l' m' k' := by
  show (w.setCell ⟨b, o, none⟩ u).heap[b]? = _
  rw [heap_setCell_of h u, ← e]
  simp
theorem TbIs.drew {w : World} {b : Nat} {d l m : Int} {k : Nat} (h : TbIs w b d l m k) : TbIs w.drew b d l m k := h
theorem rowsTo_get (k i : Nat) (h : i < 256) : (rowsTo k)[i]? = some (if i < k then u32v (rowOf i) else .int .u32 0) := by simp [rowsTo, h]
theorem tb_row (d l m : Int) (k i : Nat) : (tb d l m k)[4 + i]? = (rowsTo k)[i]? := by
  rw [Nat.add_comm]; rfl
theorem rowsTo_set (k : Nat) (hk : k < 256) : (rowsTo k).set k (u32v (rowOf k)) = rowsTo (k + 1) := by
  apply List.ext_getElem?
  intro i
  rw [List.getElem?_set]
  by_cases hi : i < 256
  · rw [rowsTo_get _ _ hi, rowsTo_get _ _ hi]
    by_cases e : k = i
    · subst e; simp [length_rowsTo, hk]
    · rw [if_neg e]
      by_cases h1 : i < k
      · rw [if_pos h1, if_pos (by omega)]
      · rw [if_neg h1, if_neg (by omega)]
  · rw [if_neg (by omega), List.getElem?_eq_none (by rw [length_rowsTo]; omega), List.getElem?_eq_none (by rw [length_rowsTo]; omega)]
theorem tb_set_row (d l m : Int) (k : Nat) (hk : k < 256) : (tb d l m k).set (4 + k) (u32v (rowOf k)) = tb d l m (k + 1) := by
  unfold tb
  rw [← rowsTo_set k hk, Nat.add_comm]
  rfl
theorem row_num (k : Nat) (hk : k < 256) : (k : Int) * 16777216 = (((BitVec.ofNat 32 k <<< 24).toNat : Nat) : Int) := by
  rw [BitVec.toNat_shiftLeft, BitVec.toNat_ofNat, Nat.shiftLeft_eq]
  omega
theorem row_num' (k : Nat) (hk : k < 256) : IntKind.u32.wrap (IntKind.u32.wrap (k : Int) * 16777216) = (((BitVec.ofNat 32 k <<< 24).toNat : Nat) : Int) := by
  rw [← row_num k hk, IntKind.wrap_u32', IntKind.wrap_u32']
  omega

theorem s_disable (w : World) : (callFunc 153 #[]).run Tryz.prog w = .ok (.value (.tuple #[])) w := run_call_mark0 Tryz.func153 (by kernel_rfl) (by kernel_rfl) (by kernel_rfl) .disable (by kernel_rfl) w
theorem s_enable (w : World) : (callFunc 155 #[]).run Tryz.prog w = .ok (.value (.tuple #[])) w := run_call_mark0 Tryz.func155 (by kernel_rfl) (by kernel_rfl) (by kernel_rfl) .enable (by kernel_rfl) w
theorem s_acquire (a : Addr) (w : World) : (callFunc 156 #[.pointer (some a)]).run Tryz.prog w = .ok (.value (.tuple #[])) w := run_call_marked Tryz.func156 (by kernel_rfl) (by kernel_rfl) (by kernel_rfl) .acquire (by kernel_rfl) a w
theorem s_releaseMerge (a : Addr) (w : World) : (callFunc 158 #[.pointer (some a)]).run Tryz.prog w = .ok (.value (.tuple #[])) w := run_call_marked Tryz.func158 (by kernel_rfl) (by kernel_rfl) (by kernel_rfl) .releaseMerge (by kernel_rfl) a w

/-- '(*sync/atomic.Bool).Store(true)', entered as a deferred call. -/
theorem store_deferred (a : Addr) (x : Value) (u : FrameMode) (w : World) (hc : w.cell? a = some x) (hz : w.frozen? a = false) :
    CallsD Tryz.prog 142 #[.pointer (some a), .bool true] u w fun e u' w' => u' = u ∧ (e = .returned (.tuple #[]) ∧ w' = w.drew.setCell a (.int .u32 1)) := by
  have hc' : w.drew.cell? a = some x := by go_simp
  have hz' : w.drew.frozen? a = false := by go_simp
  have hst := run_call_store (P := Tryz.prog) Tryz.func148 (by kernel_rfl) (by kernel_rfl) (by kernel_rfl) (by kernel_rfl) (k := .u32) (y := 1) hc' hz'
  go_enter_d Tryz.func142, Tryz.ntmps142
  go_wp2
  go_region_calls
  all_goals (go_end0; exact ⟨rfl, rfl⟩)
/-- The same as a plain call. -/
theorem store_plain (a : Addr) (x : Value) (w : World) (hc : w.cell? a = some x) (hz : w.frozen? a = false) :
    Calls Tryz.prog 142 #[.pointer (some a), .bool true] w fun e w' => e = .returned (.tuple #[]) ∧ w' = w.drew.setCell a (.int .u32 1) := by
  have hc' : w.drew.cell? a = some x := by go_simp
  have hz' : w.drew.frozen? a = false := by go_simp
  have hst := run_call_store (P := Tryz.prog) Tryz.func148 (by kernel_rfl) (by kernel_rfl) (by kernel_rfl) (by kernel_rfl) (k := .u32) (y := 1) hc' hz'
  go_enter Tryz.func142, Tryz.ntmps142
  go_wp2
  go_region_calls
  all_goals (go_end0; exact ⟨rfl, rfl⟩)
theorem load_plain (a : Addr) (d : Int) (w : World) (h0 : w.cell? a = some (.int .u32 d)) :
    Calls Tryz.prog 139 #[.pointer (some a)] w fun e w' => e = .returned (.bool (d != 0)) ∧ w = w' := by
  have hl := run_call_load (P := Tryz.prog) Tryz.func145 (by kernel_rfl) (by kernel_rfl) (by kernel_rfl) .u32 (by kernel_rfl) h0
  go_enter Tryz.func139, Tryz.ntmps139
  go_wp2
  go_ret
  exact ⟨rfl, rfl⟩
/-- '(*sync.Mutex).Unlock', entered as a deferred call, the lock held and nobody waiting. -/
theorem unlock_deferred (a : Addr) (u : FrameMode) (w : World) (hc : w.cell? a = some (.int .i32 1)) (hz : w.frozen? a = false) :
    CallsD Tryz.prog 147 #[.pointer (some a)] u w fun e u' w' => u' = u ∧ (e = .returned (.tuple #[]) ∧ w' = w.setCell a (.int .i32 0)) := by
  have hd := s_disable
  have he := s_enable
  have hr := s_releaseMerge
  have hadd := run_call_add (P := Tryz.prog) Tryz.func159 (by kernel_rfl) (by kernel_rfl) (by kernel_rfl) .i32 (by kernel_rfl) (y := -1) (s := 0) hc hz (by simp [go_sem]; rfl)
  have hcv := run_convert_to_unsafe (P := Tryz.prog) (src := 157) (dst := 161) Tryz.underlying157 Tryz.underlying161 (by kernel_rfl) hc
  go_enter_d Tryz.func147, Tryz.ntmps147
  go_wp2
  go_end0
  go_wp2
  all_goals (go_end0; exact ⟨rfl, rfl⟩)
/-- '(*sync.Mutex).Lock', the lock free. -/
theorem lock_free (a : Addr) (w : World) (hc : w.cell? a = some (.int .i32 0)) (hz : w.frozen? a = false) :
    Calls Tryz.prog 146 #[.pointer (some a)] w fun e w' => e = .returned (.tuple #[]) ∧ w' = w.setCell a (.int .i32 1) := by
  have hd := s_disable
  have he := s_enable
  have ha := s_acquire
  have hcas := run_call_cas_hit (P := Tryz.prog) Tryz.func154 (by kernel_rfl) (by kernel_rfl) (by kernel_rfl) .i32 (by kernel_rfl) (y := 1) hc hz
  have hc' : (w.setCell a (.int .i32 1)).cell? a = some (.int .i32 1) := World.cell?_setCell_same w a _ hc
  have hcv := run_convert_to_unsafe (P := Tryz.prog) (src := 157) (dst := 161) Tryz.underlying157 Tryz.underlying161 (by kernel_rfl) hc'
  go_enter Tryz.func146, Tryz.ntmps146
  go_wp2
  first | go_end0 | (simp only [Exit.inBlock, Exit.then]; refine bodyPost_ret (results_none rfl _ _ _) rfl ?_) | refine bodyPost_ret (results_none rfl _ _ _) rfl ?_
  go_wp2
  all_goals (go_end0; exact ⟨rfl, rfl⟩)

set_option maxRecDepth 100000 in
set_option maxHeartbeats 1000000 in
theorem fill_any (w : World) (b : Nat) (d l : Int) (h : TbIs w b d l 0 0) :
    Calls Tryz.prog 125 #[.pointer (some ⟨b, 0, none⟩)] w fun e w' => e = .returned (.tuple #[]) ∧ TbIs w' b d l 1 256 ∧ Kept (fun k => k = b) w w' := by
  have HT0 : Hid (TbIs w b d l 0 0) := h
  clear h
  go_enter Tryz.func125, Tryz.ntmps125
  go_wp2
  go_loopw [3] (fun i wr => ∃ j : Nat, j ≤ 256 ∧ i = .int .i64 j ∧ Hid (TbIs wr b d l 0 j) ∧ Hid (Kept (fun k => k = b) w wr)) (fun i _ => 256 - (intOf i).toNat)
  case atStart => exact ⟨0, by omega, rfl, HT0.out, Kept.refl _ _⟩
  case round =>
    obtain ⟨j, hj, rfl, ht, hk⟩ := hrel
    by_cases hj8 : j < 256
    · have hc : wr.cell? ⟨b, 4 + j, none⟩ = some (.int .u32 0) := by rw [ht.out.cell, tb_row, rowsTo_get _ _ hj8, if_neg (by omega)]
      have hf : wr.frozen? ⟨b, 4 + j, none⟩ = false := ht.out.froz _
      go_wp2
      go_region_with (go_at_call 141; rw [row_num' j hj8]; refine (moved_any _ _).mono ?_; rintro e w1 ⟨rfl, rfl⟩)
      all_goals go_wp2
      all_goals go_roundw
      case rel => exact ⟨j + 1, by omega, by go_num, (ht.out.drew).set _ _ (tb_set_row _ _ _ _ hj8), (hk.out.drew).trans (Kept.setCell _ _ _ rfl)⟩
      case measure => simp [intOf]; omega
    · have e : j = 256 := by omega
      subst e
      have hc : wr.cell? ⟨b, 3, none⟩ = some (.int .u32 0) := by rw [ht.out.cell]; rfl
      have hf : wr.frozen? ⟨b, 3, none⟩ = false := ht.out.froz _
      go_wp2_with (go_at_call 142; refine (store_plain ⟨b, 3, none⟩ _ _ hc hf).mono ?_; rintro e w1 ⟨rfl, rfl⟩)
      go_end0
      exact ⟨rfl, ht.out.drew.set _ _ rfl, (hk.out.drew).trans (Kept.setCell _ _ _ rfl)⟩

theorem lock_tb (w : World) (b : Nat) (d m : Int) (k : Nat) (h : TbIs w b d 0 m k) :
    Calls Tryz.prog 146 #[.pointer (some ⟨b, 1, none⟩)] w fun e w' => e = .returned (.tuple #[]) ∧ TbIs w' b d 1 m k ∧ Kept (fun k => k = b) w w' := by
  refine (lock_free ⟨b, 1, none⟩ w (by rw [h.cell]; rfl) (h.froz _)).mono ?_
  rintro e w' ⟨rfl, rfl⟩
  exact ⟨rfl, h.set _ _ rfl, Kept.setCell _ _ _ rfl⟩
theorem load_tb (w : World) (b : Nat) (d l m : Int) (k : Nat) (h : TbIs w b d l m k) :
    Calls Tryz.prog 139 #[.pointer (some ⟨b, 0, none⟩)] w fun e w' => e = .returned (.bool (d != 0)) ∧ w = w' :=
  load_plain ⟨b, 0, none⟩ d w (by rw [h.cell]; rfl)
theorem made_tb (w : World) (b : Nat) (d l m : Int) (k : Nat) (h : TbIs w b d l m k) :
    Calls Tryz.prog 139 #[.pointer (some ⟨b, 3, none⟩)] w fun e w' => e = .returned (.bool (m != 0)) ∧ w = w' :=
  load_plain ⟨b, 3, none⟩ m w (by rw [h.cell]; rfl)

end Go.Proofs.YtejgkgnocgplbaaGreat

/- The table's calls: Once, Add, Sum, Made, New. -/
namespace Go.Proofs.YtejgkgnocgplbaaGreat
set_option linter.unusedVariables false
set_option maxRecDepth 100000
set_option linter.unusedSimpArgs false
open Go.RowKit Dg Cr

set_option maxRecDepth 100000 in
set_option maxHeartbeats 1600000 in
theorem doSlow_any (w : World) (b : Nat) (h : TbIs w b 0 0 0 0) :
    Calls Tryz.prog 140 #[.pointer (some ⟨b, 0, none⟩), .func (.func 125) #[.pointer (some ⟨b, 0, none⟩)] #[]] w fun e w' => e = .returned (.tuple #[]) ∧ TbIs w' b 1 0 1 256 ∧ Kept (fun k => k = b) w w' := by
  have HT0 : Hid (TbIs w b 0 0 0 0) := h
  clear h
  have hnot : ∀ (x : Bool) (w : World), (Op.unary .not (.bool x)).run Tryz.prog w = .ok (.bool (!x)) w := fun _ _ => rfl
  go_enter_defers Tryz.func140, Tryz.ntmps140
  go_wp2_with (first
    | (go_at_call 146; refine (lock_tb _ _ _ _ _ HT0.out).mono ?_; rintro e w1 ⟨rfl, ht1, hk1⟩; have HT1 : Hid (TbIs w1 b 0 1 0 0) := ht1; have HK1 : Hid (Kept (fun k => k = b) w w1) := hk1; clear ht1 hk1)
    | (go_at_call 139; refine (load_tb _ _ _ _ _ _ HT1.out).mono ?_; rintro e w2 ⟨rfl, rfl⟩)
    | (go_at_call 125; refine (fill_any _ _ _ _ HT1.out).mono ?_; rintro e w2 ⟨rfl, ht2, hk2⟩; have HT2 : Hid (TbIs w2 b 0 1 1 256) := ht2; have HK2 : Hid (Kept (fun k => k = b) w w2) := HK1.out.trans hk2; clear ht2 hk2))
  go_wp2
  refine leaves_cons (f := 142) (args := #[.pointer (some ⟨b, 0, none⟩), .bool true]) (by simp) (by simp [go_sem]) ?_
  refine (store_deferred ⟨b, 0, none⟩ (.int .u32 0) .returning _ (by rw [HT2.out.cell]; rfl) (HT2.out.froz _)).mono ?_
  rintro e u' w3 ⟨rfl, rfl, rfl⟩
  have HT3 : TbIs (w2.drew.setCell ⟨b, 0, none⟩ (.int .u32 1)) b 1 1 1 256 := HT2.out.drew.set _ _ rfl
  have HK3 : Kept (fun k => k = b) w (w2.drew.setCell ⟨b, 0, none⟩ (.int .u32 1)) := (HK2.out.drew).trans (Kept.setCell _ _ _ rfl)
  refine leaves_cons (f := 147) (args := #[.pointer (some ⟨b, 1, none⟩)]) (by simp [settle]) (by simp [go_sem]) ?_
  refine (unlock_deferred ⟨b, 1, none⟩ _ _ (by rw [HT3.cell]; rfl) (HT3.froz _)).mono ?_
  rintro e u' w4 ⟨rfl, rfl, rfl⟩
  have HT4 : TbIs ((w2.drew.setCell ⟨b, 0, none⟩ (.int .u32 1)).setCell ⟨b, 1, none⟩ (.int .i32 0)) b 1 0 1 256 := HT3.set _ _ rfl
  have HK4 : Kept (fun k => k = b) w ((w2.drew.setCell ⟨b, 0, none⟩ (.int .u32 1)).setCell ⟨b, 1, none⟩ (.int .i32 0)) := HK3.trans (Kept.setCell _ _ _ rfl)
  simp [Leaves, settle, results, Tryz.results140]
  exact ⟨HT4, HK4⟩

/-- A table, made or not. -/
def TbAt (w : World) (b : Nat) (made : Bool) : Prop := if made then TbIs w b 1 0 1 256 else TbIs w b 0 0 0 0
theorem TbAt.kept {w w' : World} {b : Nat} {m : Bool} {F : Nat → Prop} (h : TbAt w b m) (hk : Kept F w w') (hF : ¬ F b) : TbAt w' b m := by
  unfold TbAt at h ⊢
  cases m
  · exact TbIs.kept h hk hF
  · exact TbIs.kept h hk hF
theorem TbAt.lt {w : World} {b : Nat} {m : Bool} (h : TbAt w b m) : b < w.heap.size := by
  unfold TbAt at h
  cases m
  · exact TbIs.lt h
  · exact TbIs.lt h
theorem TbAt.below {w w' : World} {b B : Nat} {m : Bool} (h : TbAt w b m) (hb : Below B w w') (hB : b < B) : TbAt w' b m := by
  have e : w'.heap[b]? = w.heap[b]? := hb.block b hB
  unfold TbAt TbIs at h ⊢
  cases m
  · simp only [Bool.false_eq_true, if_false] at h ⊢; rw [e]; exact h
  · simp only [if_true] at h ⊢; rw [e]; exact h

set_option maxHeartbeats 1000000 in
theorem do_first (w : World) (b : Nat) (h : TbIs w b 0 0 0 0) :
    Calls Tryz.prog 124 #[.pointer (some ⟨b, 0, none⟩), .func (.func 125) #[.pointer (some ⟨b, 0, none⟩)] #[]] w fun e w' => e = .returned (.tuple #[]) ∧ TbIs w' b 1 0 1 256 ∧ Kept (fun k => k = b) w w' := by
  have HT0 : Hid (TbIs w b 0 0 0 0) := h
  clear h
  have hnot : ∀ (x : Bool) (w : World), (Op.unary .not (.bool x)).run Tryz.prog w = .ok (.bool (!x)) w := fun _ _ => rfl
  go_enter Tryz.func124, Tryz.ntmps124
  go_wp2_with (first
    | (go_at_call 139; refine (load_tb _ _ _ _ _ _ HT0.out).mono ?_; rintro e w2 ⟨rfl, rfl⟩)
    | (go_at_call 140; refine (doSlow_any _ _ HT0.out).mono ?_; rintro e w2 ⟨rfl, ht2, hk2⟩; have HT2 : Hid (TbIs w2 b 1 0 1 256) := ht2; have HK2 : Hid (Kept (fun k => k = b) w w2) := hk2; clear ht2 hk2))
  go_end0
  exact ⟨rfl, HT2.out, HK2.out⟩

set_option maxHeartbeats 1000000 in
theorem do_done (w : World) (b : Nat) (fv : Value) (h : TbIs w b 1 0 1 256) :
    Calls Tryz.prog 124 #[.pointer (some ⟨b, 0, none⟩), fv] w fun e w' => e = .returned (.tuple #[]) ∧ w = w' := by
  have HT0 : Hid (TbIs w b 1 0 1 256) := h
  clear h
  have hnot : ∀ (x : Bool) (w : World), (Op.unary .not (.bool x)).run Tryz.prog w = .ok (.bool (!x)) w := fun _ _ => rfl
  go_enter Tryz.func124, Tryz.ntmps124
  go_wp2_with (first
    | (go_at_call 139; refine (load_tb _ _ _ _ _ _ HT0.out).mono ?_; rintro e w2 ⟨rfl, rfl⟩))
  go_end0
  exact ⟨rfl, rfl⟩

theorem do_any (w : World) (b : Nat) (m : Bool) (h : TbAt w b m) :
    Calls Tryz.prog 124 #[.pointer (some ⟨b, 0, none⟩), .func (.func 125) #[.pointer (some ⟨b, 0, none⟩)] #[]] w fun e w' => e = .returned (.tuple #[]) ∧ TbIs w' b 1 0 1 256 ∧ Kept (fun k => k = b) w w' := by
  cases m
  · exact do_first w b h
  · have h' : TbIs w b 1 0 1 256 := h
    refine (do_done w b _ h').mono ?_
    rintro e w' ⟨rfl, rfl⟩
    exact ⟨rfl, h', Kept.refl _ _⟩

theorem add_row (v : BitVec 32) (x c : Nat) (hx : x = v.toNat) (hc : c < 256) : bits BinOp.xor IntKind.u8 ((x : Int) / 16777216) (c : Int) = ((x / 16777216 ^^^ c : Nat) : Int) := by
  have hlt := v.isLt
  have e : (x : Int) / 16777216 = ((x / 16777216 : Nat) : Int) := by omega
  rw [e, u8_xor_nat _ _ (by omega) hc]
theorem row_lt (v : BitVec 32) (x c : Nat) (hx : x = v.toNat) (hc : c < 256) : x / 16777216 ^^^ c < 256 := by
  have hlt := v.isLt
  exact Nat.xor_lt_two_pow (n := 8) (by omega) hc

theorem tab_num (v : BitVec 32) (x c r y : Nat) (hx : x = v.toNat) (hc : c < 256) (hr : r = x / 16777216 ^^^ c) (hy : y = (rowOf r).toNat) :
    bits BinOp.xor IntKind.u32 ((x : Int) * 256 % 4294967296) (y : Int) = (((stepB v c).toNat : Nat) : Int) := by
  have hlt := v.isLt
  rw [← hx] at hlt
  have hr256 := row_lt v x c hx hc
  rw [← hr] at hr256
  have e1 : (x : Int) * 256 % 4294967296 = ((x * 256 % 4294967296 : Nat) : Int) := by omega
  have hy32 : y < 4294967296 := by rw [hy]; exact (rowOf r).isLt
  rw [e1, u32_xor_nat _ _ (by omega) hy32, step_table]
  congr 1
  have e2 : (v >>> 24) ^^^ BitVec.ofNat 32 c = BitVec.ofNat 32 r := by
    apply BitVec.eq_of_toNat_eq
    rw [BitVec.toNat_xor, BitVec.toNat_ushiftRight, ← hx, BitVec.toNat_ofNat, BitVec.toNat_ofNat, Nat.shiftRight_eq_div_pow, Nat.mod_eq_of_lt (show c < 2 ^ 32 by omega), Nat.mod_eq_of_lt (show r < 2 ^ 32 by omega), hr]
  rw [e2, BitVec.toNat_xor, BitVec.toNat_shiftLeft, ← hx, Nat.shiftLeft_eq, hy]
  rfl

set_option maxRecDepth 100000 in
set_option maxHeartbeats 1600000 in
theorem add_full (w : World) (b : Nat) (m : Bool) (v : BitVec 32) (sv : Value) (l : List Nat) (ht : TbAt w b m) (h : SlAt w sv l) (hne : l ≠ []) (hf : ∀ k, sv.ownBlock = some k → k ≠ b) (hl : l.length ≤ 1000000) (h256 : ∀ x ∈ l, x < 256) :
    Calls Tryz.prog 95 #[.pointer (some ⟨b, 0, none⟩), u32v v, sv] w fun e w' => e = .returned (u32v (crc v l)) ∧ TbIs w' b 1 0 1 256 ∧ Kept (fun k => k = b) w w' := by
  have HT0 : Hid (TbAt w b m) := ht
  have HS0 : Hid (SlAt w sv l) := h
  have H2 : Hid (∀ x ∈ l, x < 256) := h256
  have HF : Hid (∀ k, sv.ownBlock = some k → k ≠ b) := hf
  obtain ⟨a1, c1, rfl, hc1⟩ := h
  have hpos : 0 < l.length := List.length_pos_iff.2 hne
  have hl0 : ((l.length : Int) == 0) = false := by simp; omega
  have hmf : ∀ (fn : Fn) (first cap : Array Value) (w : World), (Instr.makeFunc fn first cap).run Tryz.prog w = .ok (.func fn first cap) w := fun _ _ _ _ => rfl
  clear ht hc1 h256 hf hne
  go_enter Tryz.func95, Tryz.ntmps95
  go_wp2_with (go_at_call 124; refine (do_any _ _ _ HT0.out).mono ?_; rintro e w1 ⟨rfl, ht1, hk1⟩; have HT1 : Hid (TbIs w1 b 1 0 1 256) := ht1; have HK1 : Hid (Kept (fun k => k = b) w w1) := hk1; clear ht1 hk1)
  have HS1 : Hid (SlAt w1 (.slice a1 l.length c1) l) := HS0.out.kept HK1.out (fun k h1 h2 => HF.out k h1 h2)
  go_loopw [1, 21] (fun s i wr => ∃ j x : Nat, j ≤ l.length ∧ i = .int .i64 j ∧ s = .int .u32 (x : Int) ∧ Hid (x = (crc v (l.take j)).toNat) ∧ w1 = wr) (fun _ i _ => l.length - (intOf i).toNat)
  case atStart => exact ⟨0, v.toNat, by omega, rfl, rfl, rfl, rfl⟩
  case round =>
    obtain ⟨j, x, hj, rfl, rfl, hx, rfl⟩ := hrel
    have hx32 : x < 4294967296 := by rw [hx.out]; exact BitVec.isLt _
    by_cases hjl : j < l.length
    · have hcc := HS1.out
      obtain ⟨ao, cc, hv, hcell⟩ := hcc
      cases hv
      obtain ⟨b1, o1, rfl, e1⟩ := hcell j l[j] (by simp [hjl])
      clear hcell
      obtain ⟨c, hc⟩ : ∃ c : Nat, c = l[j] := ⟨_, rfl⟩
      have hc256 : c < 256 := by rw [hc]; exact H2.out _ (by simp)
      have HT : Hid (l[j]? = some c) := by show _ = _; rw [hc]; simp [hjl]
      rw [← hc] at e1
      clear hc
      obtain ⟨r, hr⟩ : ∃ r : Nat, r = x / 16777216 ^^^ c := ⟨_, rfl⟩
      have hr256 : r < 256 := by rw [hr]; exact row_lt _ x c hx.out hc256
      have hrow := add_row _ x c hx.out hc256
      rw [← hr] at hrow
      have hcr : w1.cell? ⟨b, 4 + r, none⟩ = some (u32v (rowOf r)) := by rw [HT1.out.cell, tb_row, rowsTo_get _ _ hr256, if_pos hr256]
      obtain ⟨y, hy⟩ : ∃ y : Nat, y = (rowOf r).toNat := ⟨_, rfl⟩
      have hcr' : w1.cell? ⟨b, 4 + r, none⟩ = some (.int .u32 (y : Int)) := by rw [hcr, hy]
      have HR : Hid (r = x / 16777216 ^^^ c) := hr
      have HY : Hid (y = (rowOf r).toNat) := hy
      clear hcr hr hy
      go_wp2
      rw [tab_num _ x c r y hx.out hc256 HR.out HY.out]
      go_roundw
      case rel => exact ⟨j + 1, _, by omega, by go_num, rfl, by rw [crc_take _ _ _ _ HT.out]; rfl, by trivial⟩
      case measure => simp [intOf]; omega
    · have e : j = l.length := by omega
      go_wp2
      go_ret
      rw [hx.out, e, List.take_length]
      exact ⟨rfl, HT1.out, HK1.out⟩

set_option maxHeartbeats 400000 in
theorem add_empty (w : World) (b : Nat) (v : BitVec 32) (a : Option Addr) (c : Nat) :
    Calls Tryz.prog 95 #[.pointer (some ⟨b, 0, none⟩), u32v v, .slice a 0 c] w fun e w' => e = .returned (u32v v) ∧ w = w' := by
  go_enter Tryz.func95, Tryz.ntmps95
  go_wp2
  go_ret
  exact ⟨rfl, rfl⟩

/-- Add: the sum; the table is made behind it, if it was or there is a byte. -/
theorem tadd_any (w : World) (b : Nat) (m : Bool) (v : BitVec 32) (sv : Value) (l : List Nat) (ht : TbAt w b m) (h : SlAt w sv l) (hf : l ≠ [] → ∀ k, sv.ownBlock = some k → k ≠ b) (hl : l.length ≤ 1000000) (h256 : ∀ x ∈ l, x < 256) :
    Calls Tryz.prog 95 #[.pointer (some ⟨b, 0, none⟩), u32v v, sv] w fun e w' => e = .returned (u32v (crc v l)) ∧ TbAt w' b (m || !l.isEmpty) ∧ Kept (fun k => k = b) w w' := by
  by_cases hne : l = []
  · subst hne
    obtain ⟨a1, c1, rfl, hc1⟩ := h
    refine (add_empty w b v a1 c1).mono ?_
    rintro e w' ⟨rfl, rfl⟩
    exact ⟨rfl, by simpa using ht, Kept.refl _ _⟩
  · refine (add_full w b m v sv l ht h hne (hf hne) hl h256).mono ?_
    rintro e w' ⟨rfl, h1, h2⟩
    have e : (m || !l.isEmpty) = true := by cases l with
      | nil => exact absurd rfl hne
      | cons _ _ => simp
    exact ⟨rfl, by rw [e]; exact h1, h2⟩

set_option maxHeartbeats 400000 in
theorem tsum_any (w : World) (b : Nat) (m : Bool) (sv : Value) (l : List Nat) (ht : TbAt w b m) (h : SlAt w sv l) (hf : l ≠ [] → ∀ k, sv.ownBlock = some k → k ≠ b) (hl : l.length ≤ 1000000) (h256 : ∀ x ∈ l, x < 256) :
    Calls Tryz.prog 71 #[.pointer (some ⟨b, 0, none⟩), sv] w fun e w' => e = .returned (u32v (crc ones l)) ∧ TbAt w' b (m || !l.isEmpty) ∧ Kept (fun k => k = b) w w' := by
  have HC : Hid (Calls Tryz.prog 95 #[.pointer (some ⟨b, 0, none⟩), .int .u32 4294967295, sv] w fun e w' => e = .returned (u32v (crc ones l)) ∧ TbAt w' b (m || !l.isEmpty) ∧ Kept (fun k => k = b) w w') := tadd_any w b m ones sv l ht h hf hl h256
  clear ht h hf h256
  go_enter Tryz.func71, Tryz.ntmps71
  go_wp2_with (go_at_call 95; refine HC.out.mono ?_; rintro e w1 ⟨rfl, ht1, hk1⟩; have HT1 : Hid (TbAt w1 b (m || !l.isEmpty)) := ht1; have HK1 : Hid (Kept (fun k => k = b) w w1) := hk1; clear ht1 hk1)
  go_ret
  exact ⟨rfl, HT1.out, HK1.out⟩

theorem tnew_any (w : World) :
    Calls Tryz.prog 27 #[] w fun e w' => e = .returned (.pointer (some ⟨w.heap.size, 0, none⟩)) ∧ TbAt w' w.heap.size false ∧ Below w.heap.size w w' ∧ w.heap.size < w'.heap.size := by
  refine (new_raw w).mono ?_
  rintro e w' ⟨rfl, rfl⟩
  exact ⟨rfl, heap_alloc_new w _, (Below.refl _ _).alloc (Nat.le_refl _) _, by simp⟩

end Go.Proofs.YtejgkgnocgplbaaGreat

/- The document's example of sums; copies of bytes; Same at any bytes. -/
namespace Go.Proofs.YtejgkgnocgplbaaGreat
set_option linter.unusedVariables false
set_option maxRecDepth 100000
set_option linter.unusedSimpArgs false
open Go.RowKit Dg Cr

theorem wf_u32 {x : Int} (h : (Lit.int .u32 x).wf = true) : 0 ≤ x ∧ x < 4294967296 := by
  simp [Lit.wf, IntKind.min, IntKind.max, IntKind.signed, IntKind.bits] at h
  omega
theorem tsum_at (w : World) (b : Nat) (m : Bool) (sv : Value) (l : List Nat) (x : Nat) (hx : x = (crc ones l).toNat) (ht : TbAt w b m) (h : SlAt w sv l) (hf : l ≠ [] → ∀ k, sv.ownBlock = some k → k ≠ b) (hl : l.length ≤ 1000000) (h256 : ∀ x ∈ l, x < 256) :
    Calls Tryz.prog 71 #[.pointer (some ⟨b, 0, none⟩), sv] w fun e w' => e = .returned (.int .u32 (x : Int)) ∧ TbAt w' b (m || !l.isEmpty) ∧ Kept (fun k => k = b) w w' := by
  rw [hx]; exact tsum_any w b m sv l ht h hf hl h256
theorem tadd_at (w : World) (b : Nat) (m : Bool) (s : Nat) (sv : Value) (l : List Nat) (x : Nat) (hs : s < 4294967296) (hx : x = (crc (BitVec.ofNat 32 s) l).toNat) (ht : TbAt w b m) (h : SlAt w sv l) (hf : l ≠ [] → ∀ k, sv.ownBlock = some k → k ≠ b) (hl : l.length ≤ 1000000) (h256 : ∀ x ∈ l, x < 256) :
    Calls Tryz.prog 95 #[.pointer (some ⟨b, 0, none⟩), .int .u32 (s : Int), sv] w fun e w' => e = .returned (.int .u32 (x : Int)) ∧ TbAt w' b (m || !l.isEmpty) ∧ Kept (fun k => k = b) w w' := by
  have e : (BitVec.ofNat 32 s).toNat = s := by rw [BitVec.toNat_ofNat]; omega
  have h1 := tadd_any w b m (BitVec.ofNat 32 s) sv l ht h hf hl h256
  unfold u32v at h1
  rw [e] at h1
  rw [hx]; exact h1

theorem rsum_at (w : World) (b : Value) (l : List Nat) (x : Nat) (hx : x = (crc ones l).toNat) (h : SlAt w b l) (hl : l.length ≤ 1000000) (h256 : ∀ x ∈ l, x < 256) :
    Calls Tryz.prog 59 #[b] w fun e w' => e = .returned (.int .u32 (x : Int)) ∧ w = w' := by
  rw [hx]; exact rsum_any w b l h hl h256
theorem radd_at (w : World) (s : Nat) (b : Value) (l : List Nat) (x : Nat) (hs : s < 4294967296) (hx : x = (crc (BitVec.ofNat 32 s) l).toNat) (h : SlAt w b l) (hl : l.length ≤ 1000000) (h256 : ∀ x ∈ l, x < 256) :
    Calls Tryz.prog 83 #[.int .u32 (s : Int), b] w fun e w' => e = .returned (.int .u32 (x : Int)) ∧ w = w' := by
  have e : (BitVec.ofNat 32 s).toNat = s := by rw [BitVec.toNat_ofNat]; omega
  have h1 := radd_any w (BitVec.ofNat 32 s) b l h hl h256
  unfold u32v at h1
  rw [e] at h1
  rw [hx]; exact h1

/-- "123456789" -/
def nine : List Nat := [49, 50, 51, 52, 53, 54, 55, 56, 57]
theorem crc_nine : (crc ones nine).toNat = 58124007 := by decide +kernel
/-- Bytes of a text, as bytes: the row is marked behind its end. -/
theorem run_marked (w : World) (C : Array Value) (n c : Nat) :
    Sem.run Tryz.prog (convert 27 27 (.slice (some ⟨w.heap.size, 0, none⟩) n c)) (w.alloc (.cells C 5)) = .ok (.slice (some ⟨w.heap.size, 0, none⟩) n c) (w.alloc (.cells C 5 (C.size, C.size + 1))) := by
  have hsh : (w.alloc (.cells C 5)).shape? w.heap.size = some (5, C.size) := by
    unfold World.shape?
    rw [heap_alloc_new]
  have hfr : (w.alloc (.cells C 5)).freeze ⟨w.heap.size, C.size, none⟩ 1 = w.alloc (.cells C 5 (C.size, C.size + 1)) := by
    have hm : ∀ (a : Array Obj) (x : Obj) (f : Obj → Obj), (a.push x).modify a.size f = a.push (f x) := by
      intro a x f
      apply Array.ext
      · simp
      · intro i h1 h2
        simp only [Array.getElem_modify, Array.getElem_push]
        by_cases h : a.size = i
        · subst h
          simp
        · have hi : i < a.size := by simp at h1; omega
          simp [h, hi]
    unfold World.freeze
    rw [if_neg (by decide)]
    show ({ w.alloc (.cells C 5) with heap := (w.heap.push (.cells C 5)).modify w.heap.size _ } : World) = _
    rw [hm]
    rfl
  simp [convert, run_underlying Tryz.underlying27, run_underlying Tryz.underlying5, markStringish, hsh]
  exact hfr
theorem nine_at (w : World) : SlAt (w.alloc (.cells #[.int .u8 49, .int .u8 50, .int .u8 51, .int .u8 52, .int .u8 53, .int .u8 54, .int .u8 55, .int .u8 56, .int .u8 57] 5 (9, 10))) (.slice (some ⟨w.heap.size, 0, none⟩) 9 9) nine := by
  refine ⟨some ⟨w.heap.size, 0, none⟩, 9, rfl, fun j x hx => ⟨w.heap.size, 0, rfl, ?_⟩⟩
  have hj : j < 9 := (List.getElem?_eq_some_iff.1 hx).1
  have hr : j = 0 ∨ j = 1 ∨ j = 2 ∨ j = 3 ∨ j = 4 ∨ j = 5 ∨ j = 6 ∨ j = 7 ∨ j = 8 := by omega
  rcases hr with h | h | h | h | h | h | h | h | h <;> subst h <;> simp [nine] at hx <;> subst hx <;> (simp only [World.cell?, heap_alloc_new]; rfl)

end Go.Proofs.YtejgkgnocgplbaaGreat

/- The coder of package block in memory: its table and two counts; sum, bytes.Equal, holds. -/
namespace Go.Proofs.YtejgkgnocgplbaaGreat
set_option linter.unusedVariables false
set_option linter.unusedSimpArgs false
open Go.RowKit Dg Cr

/-- '(*sync/atomic.Int64).Add', '.Load' of a count. -/
theorem aadd_any (a : Addr) (x y : Int) (w : World) (hc : w.cell? a = some (.int .i64 x)) (hz : w.frozen? a = false) (h1 : -1000000 ≤ x) (h2 : x ≤ 1000000) (h3 : -1000000 ≤ y) (h4 : y ≤ 1000000) :
    Calls Tryz.prog 33 #[.pointer (some a), .int .i64 y] w fun e w' => e = .returned (.int .i64 (x + y)) ∧ w' = w.setCell a (.int .i64 (x + y)) := by
  have hs : (Op.intArith .add .i64 x y).run Tryz.prog w = .ok (.int .i64 (x + y)) w := by
    have e : IntKind.i64.wrap (x + y) = x + y := Go.IntWalk.i64_in _ (by omega)
    simp [Op.intArith, e]
  have hl := run_call_add (P := Tryz.prog) Tryz.func49 (by kernel_rfl) (by kernel_rfl) (by kernel_rfl) .i64 (by kernel_rfl) hc hz hs
  go_enter Tryz.func33, Tryz.ntmps33
  go_wp2
  go_ret
  exact ⟨rfl, rfl⟩
theorem aload_any (a : Addr) (x : Int) (w : World) (hc : w.cell? a = some (.int .i64 x)) :
    Calls Tryz.prog 42 #[.pointer (some a)] w fun e w' => e = .returned (.int .i64 x) ∧ w = w' := by
  have hl := run_call_load (P := Tryz.prog) Tryz.func67 (by kernel_rfl) (by kernel_rfl) (by kernel_rfl) .i64 (by kernel_rfl) hc
  go_enter Tryz.func42, Tryz.ntmps42
  go_wp2
  go_ret
  exact ⟨rfl, rfl⟩

theorem aload_quiet (a : Addr) (x : Int) (w : World) (k : Nat) (hc : w.cell? a = some (.int .i64 x)) :
    Calls Tryz.prog 42 #[.pointer (some a)] (w.drewN k) fun e w'' => e = .returned (.int .i64 x) ∧ ∃ m, w'' = w.drewN m :=
  (aload_any a x (w.drewN k) hc).mono fun e w'' ⟨h1, h2⟩ => ⟨h1, k, h2.symm⟩

/-- A coder: its table, its counts. -/
structure CoIs (w : World) (b t n m : Nat) (made : Bool) : Prop where
  box : w.heap[b]? = some (.cells #[.pointer (some ⟨t, 0, none⟩), .int .i64 (n : Int), .int .i64 (m : Int)] 61 (0, 0))
  tab : TbAt w t made
  ne : t ≠ b
def CoS (w : World) (b base top n m : Nat) : Prop := ∃ t made, CoIs w b t n m made ∧ base ≤ t ∧ t < top ∧ base ≤ b ∧ b < top ∧ top ≤ w.heap.size
theorem CoIs.cell {w : World} {b t n m : Nat} {made : Bool} (h : CoIs w b t n m made) : w.cell? ⟨b, 0, none⟩ = some (.pointer (some ⟨t, 0, none⟩)) ∧ w.cell? ⟨b, 1, none⟩ = some (.int .i64 (n : Int)) ∧ w.cell? ⟨b, 2, none⟩ = some (.int .i64 (m : Int)) := by
  simp [World.cell?, h.box]
theorem CoIs.froz {w : World} {b t n m : Nat} {made : Bool} (h : CoIs w b t n m made) (o : Nat) : w.frozen? ⟨b, o, none⟩ = false := by
  simp [World.frozen?, h.box]
theorem CoIs.kept {w w' : World} {b t n m : Nat} {made : Bool} {F : Nat → Prop} (h : CoIs w b t n m made) (hk : Kept F w w') (h1 : ¬ F b) (h2 : ¬ F t) : CoIs w' b t n m made :=
  ⟨by rw [hk.block b (Array.getElem?_eq_some_iff.1 h.box).1 h1]; exact h.box, h.tab.kept hk h2, h.ne⟩
theorem CoIs.sealed {w : World} {b t n m : Nat} {made : Bool} (h : CoIs w b t n m made) (n' : Nat) : CoIs (w.setCell ⟨b, 1, none⟩ (.int .i64 (n' : Int))) b t n' m made :=
  ⟨heap_setCell_of h.box _, h.tab.kept (Kept.setCell (F := fun k => k = b) _ _ _ rfl) (fun e => h.ne e), h.ne⟩
theorem CoIs.opened {w : World} {b t n m : Nat} {made : Bool} (h : CoIs w b t n m made) (m' : Nat) : CoIs (w.setCell ⟨b, 2, none⟩ (.int .i64 (m' : Int))) b t n m' made :=
  ⟨heap_setCell_of h.box _, h.tab.kept (Kept.setCell (F := fun k => k = b) _ _ _ rfl) (fun e => h.ne e), h.ne⟩
theorem CoS.lt {w : World} {b base top n m : Nat} (h : CoS w b base top n m) : base ≤ b ∧ b < top ∧ top ≤ w.heap.size := by
  obtain ⟨t, made, -, -, -, h1, h2, h3⟩ := h
  exact ⟨h1, h2, h3⟩
theorem CoS.keep {w w' : World} {b base top n m : Nat} {F : Nat → Prop} (h : CoS w b base top n m) (hk : Kept F w w') (hF : ∀ k, InCo base top k → ¬ F k) : CoS w' b base top n m := by
  obtain ⟨t, made, h0, h1, h2, h3, h4, h5⟩ := h
  exact ⟨t, made, h0.kept hk (hF b ⟨h3, h4⟩) (hF t ⟨h1, h2⟩), h1, h2, h3, h4, Nat.le_trans h5 hk.size⟩
set_option maxHeartbeats 1000000 in
theorem snew_any (w : World) : Calls Tryz.prog 9 #[] w fun e w' => ∃ b top, e = .returned (.pointer (some ⟨b, 0, none⟩)) ∧ CoS w' b w.heap.size top 0 0 ∧ Below w.heap.size w w' := by
  go_enter Tryz.func9, Tryz.ntmps9
  go_wp2_with fail
  refine (tnew_any w).mono ?_
  rintro e w1 ⟨rfl, ht1, hb1, hs1⟩
  have HT1 := hid_of ht1
  have HB1 := hid_of hb1
  clear ht1 hb1
  go_wp2_with fail
  go_ret
  refine ⟨w1.heap.size, w1.heap.size + 1, rfl, ⟨w.heap.size, false, ⟨heap_alloc_new w1 _, HT1.out.kept (Kept.alloc (fun _ => False) _ _) (fun h => h), by omega⟩, Nat.le_refl _, by omega, by omega, by omega, by simp⟩, HB1.out.alloc (by omega) _⟩
set_option maxHeartbeats 1000000 in
theorem scount_any (w : World) (b base top n m : Nat) (h : CoS w b base top n m) : Calls Tryz.prog 22 #[.pointer (some ⟨b, 0, none⟩)] w fun e w' => e = .returned (.tuple #[.int .i64 (n : Int), .int .i64 (m : Int)]) ∧ ∃ d, w' = w.drewN d := by
  obtain ⟨t, made, h0, -⟩ := h
  obtain ⟨c0, c1, c2⟩ := h0.cell
  clear h0
  go_enter Tryz.func22, Tryz.ntmps22
  go_wp2_with fail
  go_quiet (first
    | (go_at_call_of 42 (Value.pointer (some ⟨b, 1, none⟩)); exact aload_quiet _ _ _ _ c1)
    | (go_at_call_of 42 (Value.pointer (some ⟨b, 2, none⟩)); exact aload_quiet _ _ _ _ c2))
  go_wp2_with fail
  go_ret2
  exact ⟨rfl, nq, rfl⟩

theorem CoIs.lt {w : World} {b t n m : Nat} {made : Bool} (h : CoIs w b t n m made) : b < w.heap.size := (Array.getElem?_eq_some_iff.1 h.box).1
/-- A sum by the coder's table. -/
theorem csum_any (w : World) (b t n m base top : Nat) (made : Bool) (h : CoIs w b t n m made) (ht1 : base ≤ t) (ht2 : t < top) (hb1 : base ≤ b) (hb2 : b < top) (htop : top ≤ w.heap.size) (v : Value) (l : List Nat) (X : Nat) (hX : X = sumN l) (hs : SlAt w v l) (hf : l ≠ [] → ∀ k, v.ownBlock = some k → ¬ InCo base top k) (hl : l.length ≤ 1000000) (h256 : ∀ x ∈ l, x < 256) :
    Calls Tryz.prog 71 #[.pointer (some ⟨t, 0, none⟩), v] w fun e w' => e = .returned (.int .u32 (X : Int)) ∧ (∃ made', CoIs w' b t n m made') ∧ Kept (InCo base top) w w' := by
  refine (tsum_at w t made v l X hX h.tab hs (fun hne k hk e => hf hne k hk (by subst e; exact ⟨ht1, ht2⟩)) hl h256).mono ?_
  rintro e w' ⟨rfl, ht, hk⟩
  refine ⟨rfl, ⟨_, ⟨?_, ht, h.ne⟩⟩, hk.mono (fun i _ hi => by subst hi; exact ⟨ht1, ht2⟩)⟩
  rw [hk.block b h.lt (fun e => h.ne e.symm)]
  exact h.box
/-- The four bytes of a sum, as the walk spells them. -/
theorem four_own (w : World) (B X : Nat) (hX : X < 4294967296) (hB : B ≤ w.heap.size) : (w.alloc (.cells #[.int .u8 ((X : Int) / 16777216), .int .u8 ((X : Int) / 65536 % 256), .int .u8 ((X : Int) / 256 % 256), .int .u8 ((X : Int) % 256)] 5)).ownsRow B 5 1 (.slice (some ⟨w.heap.size, 0, none⟩) 4 4) 4 (u8s (bytes4 X)) := by
  refine own_new w B _ 4 (bytes4 X) ?_ rfl (by decide) hB
  have h0 : (X : Int) / 16777216 = ((X / 16777216 % 256 : Nat) : Int) := by omega
  have h1 : (X : Int) / 65536 % 256 = ((X / 65536 % 256 : Nat) : Int) := by omega
  have h2 : (X : Int) / 256 % 256 = ((X / 256 % 256 : Nat) : Int) := by omega
  have h3 : (X : Int) % 256 = ((X % 256 : Nat) : Int) := by omega
  rw [h0, h1, h2, h3]
  rfl
set_option maxRecDepth 100000 in
set_option maxHeartbeats 4000000 in
/-- 'c.sum(b)'. -/
theorem ssum_any (w : World) (b base top n m : Nat) (h : CoS w b base top n m) (v : Value) (l : List Nat) (X : Nat) (hX : X = sumN l) (hs : SlAt w v l) (hf : l ≠ [] → ∀ k, v.ownBlock = some k → ¬ InCo base top k) (hl : l.length ≤ 1000000) (h256 : ∀ x ∈ l, x < 256) :
    Calls Tryz.prog 44 #[.pointer (some ⟨b, 0, none⟩), v] w fun e w' => ∃ g, e = .returned (.slice (some ⟨g, 0, none⟩) 4 4) ∧ w'.ownsRow w.heap.size 5 1 (.slice (some ⟨g, 0, none⟩) 4 4) 4 (u8s (bytes4 X)) ∧ CoS w' b base top n m ∧ Kept (InCo base top) w w' := by
  obtain ⟨t, made, h0, h1, h2, h3, h4, h5⟩ := h
  obtain ⟨c0, c1, c2⟩ := h0.cell
  have hXl : X < 4294967296 := by rw [hX]; exact sumN_lt _
  have HC := hid_of (csum_any w b t n m base top made h0 h1 h2 h3 h4 h5 v l X hX hs hf hl h256)
  have HP : Hid (base ≤ t ∧ t < top ∧ base ≤ b ∧ b < top ∧ top ≤ w.heap.size) := ⟨h1, h2, h3, h4, h5⟩
  clear h0 hX hs hf h256 h1 h2 h3 h4 h5
  go_enter Tryz.func44, Tryz.ntmps44
  go_wp2_with fail
  refine HC.out.mono ?_
  rintro e w1 ⟨rfl, ⟨made1, hc1⟩, hk1⟩
  have HC1 := hid_of hc1
  have HK1 := hid_of hk1
  clear hc1 hk1 HC
  go_wp2_with fail
  go_ret
  have hka := Kept.alloc (fun _ => False) w1 (.cells #[.int .u8 ((X : Int) / 16777216), .int .u8 ((X : Int) / 65536 % 256), .int .u8 ((X : Int) / 256 % 256), .int .u8 ((X : Int) % 256)] 5)
  exact ⟨_, rfl, four_own w1 _ X hXl HK1.out.size, ⟨t, made1, HC1.out.kept hka (fun h => h) (fun h => h), HP.out.1, HP.out.2.1, HP.out.2.2.1, HP.out.2.2.2.1, Nat.le_trans HP.out.2.2.2.2 (Nat.le_trans HK1.out.size hka.size)⟩, HK1.out.trans (hka.mono (fun _ _ h => h.elim))⟩

/-- The string of some bytes. -/
def strB (l : List Nat) : ByteArray := strOfNums (l.map fun n : Nat => (n : Int))
theorem conv_bytes (w : World) (a : Option Addr) (n c : Nat) (l : List Nat) (hn : l.length = n) (h0 : 0 < n) (h : SlAt w (.slice a n c) l) :
    (convert 27 9 (.slice a n c)).run Tryz.prog w = .ok (.string (strB l)) w := by
  subst hn
  obtain ⟨ao, cp, hv, hc⟩ := h
  cases hv
  obtain ⟨b, off, rfl, -⟩ := hc 0 (l[0]'h0) (by rw [List.getElem?_eq_getElem])
  unfold strB
  refine run_convert_bytes_arg (P := Tryz.prog) w 27 5 Tryz.underlying27 Tryz.underlying5 b off _ _ (l.map fun n : Nat => (n : Int)) (List.length_map ..) (fun i hi => ?_) 9 Tryz.underlying9
  obtain ⟨b', off', e, hcell⟩ := hc i (l[i]'hi) (by rw [List.getElem?_eq_getElem])
  cases e
  rw [hcell]
  simp [List.getD, List.getElem?_eq_getElem hi]
theorem strB_eq {l1 l2 : List Nat} (h1 : ∀ x ∈ l1, x < 256) (h2 : ∀ x ∈ l2, x < 256) : (strB l1).data.toList = (strB l2).data.toList ↔ l1 = l2 := by
  refine ⟨fun h => ?_, fun h => by rw [h]⟩
  unfold strB at h
  rw [strOfNums_data, strOfNums_data, List.map_map, List.map_map] at h
  have key : ∀ l : List Nat, (∀ x ∈ l, x < 256) → (l.map ((fun n : Int => UInt8.ofNat n.toNat) ∘ fun n : Nat => (n : Int))).map UInt8.toNat = l := by
    intro l hl
    rw [List.map_map]
    conv => rhs; rw [← List.map_id l]
    refine List.map_congr_left (fun x hx => ?_)
    have := hl x hx
    simp [UInt8.toNat_ofNat]
    omega
  have h3 := congrArg (List.map UInt8.toNat) h
  rwa [key l1 h1, key l2 h2] at h3
set_option maxHeartbeats 1000000 in
/-- 'bytes.Equal' of rows that are not empty. -/
theorem bequal_any (w : World) (a1 a2 : Option Addr) (n1 n2 c1 c2 : Nat) (l1 l2 : List Nat) (e1 : l1.length = n1) (e2 : l2.length = n2) (p1 : 0 < n1) (p2 : 0 < n2) (h1 : SlAt w (.slice a1 n1 c1) l1) (h2 : SlAt w (.slice a2 n2 c2) l2) (b1 : ∀ x ∈ l1, x < 256) (b2 : ∀ x ∈ l2, x < 256) (q : Bool) (hq : q = decide (l1 = l2)) :
    Calls Tryz.prog 45 #[.slice a1 n1 c1, .slice a2 n2 c2] w fun e w' => e = .returned (.bool q) ∧ w = w' := by
  have k1 := conv_bytes w a1 n1 c1 l1 e1 p1 h1
  have k2 := conv_bytes w a2 n2 c2 l2 e2 p2 h2
  have HQ : Hid (((strB l1).toList == (strB l2).toList) = q) := by
    show _ = _
    rw [hq, ByteArray.toList_eq, ByteArray.toList_eq]
    by_cases h : l1 = l2
    · rw [decide_eq_true h]; exact beq_iff_eq.2 ((strB_eq b1 b2).2 h)
    · rw [decide_eq_false h]; exact beq_eq_false_iff_ne.2 (fun e => h ((strB_eq b1 b2).1 e))
  clear h1 h2 b1 b2 hq
  generalize strB l1 = s1 at *
  generalize strB l2 = s2 at *
  go_enter Tryz.func45, Tryz.ntmps45
  go_wp2
  go_ret
  exact ⟨by rw [← HQ.out]; rfl, rfl⟩

set_option maxRecDepth 100000 in
set_option maxHeartbeats 4000000 in
/-- 'c.holds(sector)'. -/
theorem swhole_any (w : World) (b base top n m : Nat) (a : Option Addr) (cap : Nat) (l : List Nat) (h : CoS w b base top n m) (hs : Bs w a cap l) (hf : l ≠ [] → ∀ y, a = some y → ¬ InCo base top y.block) (hl : l.length ≤ 100000) (h256 : ∀ x ∈ l, x < 256) (q : Bool) (hq : q = decide (wholeP l)) :
    Calls Tryz.prog 31 #[.pointer (some ⟨b, 0, none⟩), .slice a l.length cap] w fun e w' => e = .returned (.bool q) ∧ CoS w' b base top n m ∧ Kept (InCo base top) w w' := by
  by_cases h128 : l.length = 128
  · have hb : ((l.length : Int) == 128) = true := beq_iff_eq.2 (by omega)
    have hle := hs.le
    have htop : top ≤ w.heap.size := h.lt.2.2
    obtain ⟨T, hT⟩ : ∃ T, T = l.take 124 := ⟨_, rfl⟩
    obtain ⟨D, hD⟩ : ∃ D, D = l.drop 124 := ⟨_, rfl⟩
    obtain ⟨X, hX⟩ : ∃ X, X = sumN T := ⟨_, rfl⟩
    have hTl : T.length = 124 := by rw [hT, List.length_take]; omega
    have hDl : D.length = 4 := by rw [hD, List.length_drop]; omega
    have HQ : Hid (q = decide (bytes4 X = D)) := by
      show _ = _
      rw [hq]
      by_cases hw : wholeP l
      · rw [decide_eq_true hw, decide_eq_true]
        rw [hX, hT, hD]; exact hw.2.symm
      · rw [decide_eq_false hw, decide_eq_false]
        intro e
        exact hw ⟨h128, by rw [← hT, ← hD, ← hX]; exact e.symm⟩
    have HT256 : Hid (∀ x ∈ T, x < 256) := by rw [hT]; exact fun x hx => h256 x (List.mem_of_mem_take hx)
    have HD256 : Hid (∀ x ∈ D, x < 256) := by rw [hD]; exact fun x hx => h256 x (List.mem_of_mem_drop hx)
    obtain ⟨a', ha'⟩ : ∃ a', a' = lowA a cap 124 := ⟨_, rfl⟩
    obtain ⟨cap', hcap'⟩ : ∃ cap', cap' = cap - 124 := ⟨_, rfl⟩
    have hsl : ∀ W : World, (Instr.sliceAt 27 (.slice a l.length cap) none (some (.int .i64 124)) none).run Tryz.prog W = .ok (.slice a 124 cap) W := fun W => slice_hi a l.length cap 124 (by omega) W
    have hsl2 : ∀ W : World, (Instr.sliceAt 27 (.slice a l.length cap) (some (.int .i64 124)) none none).run Tryz.prog W = .ok (.slice a' 4 cap') W := fun W => by
      have e := slice_lo a l.length cap 124 (by omega) W
      rw [ha', hcap', show 4 = l.length - 124 by omega]
      exact e
    have HSD : Hid (∀ W, Bs W a cap l → SlAt W (.slice a' 4 cap') D) := fun W hW => by
      have h1 := (hW.lo 124 (by omega)).at_
      rw [List.length_drop, show l.length - 124 = 4 by omega] at h1
      rw [ha', hcap', hD]; exact h1
    have HST : Hid (∀ W, Bs W a cap l → SlAt W (.slice a 124 cap) T) := fun W hW => by rw [hT]; exact hW.hi 124 (by omega)
    have HF : Hid (∀ y, a = some y → ¬ InCo base top y.block) := hf (fun e => by rw [e] at h128; simp at h128)
    have H := hid_of h
    have HS := hid_of hs
    have HX := hid_of hX
    have HDL := hid_of hDl
    have HTL := hid_of hTl
    clear h hs hf h256 hX hq hT hD ha' hcap' hDl hTl h128 hle
    have HCS : Hid (Calls Tryz.prog 44 #[.pointer (some ⟨b, 0, none⟩), .slice a 124 cap] w.drew fun e w' => ∃ g, e = .returned (.slice (some ⟨g, 0, none⟩) 4 4) ∧ SlAt w' (.slice (some ⟨g, 0, none⟩) 4 4) (bytes4 X) ∧ SlAt w' (.slice a' 4 cap') D ∧ CoS w' b base top n m ∧ Kept (InCo base top) w w') := by
      have hd : Kept (fun _ => False) w w.drew := (Kept.refl _ _).drew
      refine (ssum_any w.drew b base top n m (H.out.keep hd (fun _ _ h => h)) _ T X HX.out ((HST.out w HS.out).kept hd (fun _ _ h => h)) (fun _ => far_block HF.out) (by rw [HTL.out]; decide) HT256.out).mono ?_
      rintro e w4 ⟨g4, rfl, h4, hc4, hk4⟩
      have hk5 : Kept (InCo base top) w w4 := (hd.mono (fun _ _ h => h.elim)).trans hk4
      exact ⟨g4, rfl, SlAt.of_owns h4, HSD.out w4 (HS.out.co hk5 (fun _ => HF.out)), hc4, hk5⟩
    clear H HS HX HSD HST HF HT256
    go_enter Tryz.func31, Tryz.ntmps31
    go_upto_region 1 with fail
    go_region_with (first
      | (go_at_call 44; refine HCS.out.mono ?_; rintro e w4 ⟨g4, rfl, h4, hd4, hc4, hk4⟩; have H4 := hid_of h4; have HD4 := hid_of hd4; have HC4 := hid_of hc4; have HK4 := hid_of hk4; clear h4 hd4 hc4 hk4)
      | (go_at_call 45; refine (bequal_any _ _ _ 4 4 4 _ (bytes4 X) D (length_bytes4 X) HDL.out (by decide) (by decide) H4.out HD4.out (bytes4_lt X) HD256.out q HQ.out).mono ?_; rintro e w5 ⟨rfl, rfl⟩))
    all_goals go_wp2_with fail
    all_goals go_ret
    all_goals exact ⟨rfl, HC4.out, HK4.out⟩
  · have hb : ((l.length : Int) == 128) = false := beq_eq_false_iff_ne.2 (by omega)
    have hq' : q = false := by rw [hq]; exact decide_eq_false (fun h => h128 h.1)
    have H := hid_of h
    subst hq'
    clear h hs hf h256 hq h128
    go_enter Tryz.func31, Tryz.ntmps31
    go_upto_region 1 with fail
    go_quiet (fail)
    go_wp2_with fail
    go_ret
    exact ⟨rfl, H.out.keep (F := fun _ => False) ⟨rfl, rfl, rfl, Nat.le_refl _, fun _ _ _ => rfl⟩ (fun _ _ h => h), ⟨rfl, rfl, rfl, Nat.le_refl _, fun _ _ _ => rfl⟩⟩

end Go.Proofs.YtejgkgnocgplbaaGreat

/- No more than 64 samples are decoded. -/
namespace Go.Proofs.YtejgkgnocgplbaaGreat
set_option linter.unusedVariables false
set_option linter.unusedSimpArgs false
open Go.RowKit Dg

theorem rest_most {x l : List Int} (h : (restOut x l).2 = 0) : (restOut x l).1.length ≤ 64 := by
  unfold restOut at h ⊢
  split at h
  · cases h
  · rename_i h1
    rw [if_neg h1]
    split at h
    · rename_i h2
      rw [if_pos h2]
      split at h
      · cases h
      · rename_i y hy
        split at h
        · cases h
        · rename_i h3
          rw [if_neg h3]
          show y.length ≤ 64
          omega
    · cases h
theorem lrest_most {x l c : List Int} (h : (lrestOut x l c).2 = 0) : (lrestOut x l c).1.length ≤ 64 := by
  unfold lrestOut at h ⊢
  split at h
  · cases h
  · rename_i h1
    rw [if_neg h1]
    split at h
    · rename_i h2
      rw [if_pos h2]
      split at h
      · cases h
      · rename_i y hy
        split at h
        · cases h
        · rename_i h3
          rw [if_neg h3]
          show y.length ≤ 64
          omega
    · cases h
theorem decD_most {ds : List Bool} {y : List Int} (h : decD ds = some y) : y.length ≤ 64 := by
  unfold decD at h
  obtain ⟨r1, -, h⟩ := Option.bind_eq_some_iff.1 h
  obtain ⟨r2, -, h⟩ := Option.bind_eq_some_iff.1 h
  split at h
  · cases h
  rename_i hg
  obtain ⟨q, hq, h⟩ := Option.bind_eq_some_iff.1 h
  obtain ⟨b, hb, h⟩ := Option.bind_eq_some_iff.1 h
  split at h
  case isFalse => cases h
  cases h
  have hql := sampsT_len _ _ _ hq
  unfold bodyT at hb
  by_cases h0 : r1.1 = 0
  · rw [if_pos h0] at hb; cases hb; simp; omega
  rw [if_neg h0] at hb
  by_cases h1 : r1.1 = 1
  · rw [if_pos h1] at hb; cases hb; rw [hql]; omega
  rw [if_neg h1] at hb
  by_cases h6 : r1.1 ≤ 6
  · rw [if_pos h6] at hb
    obtain ⟨r, -, g2⟩ := Option.bind_eq_some_iff.1 hb
    split at g2
    · rename_i hz; cases g2; exact rest_most hz
    · cases g2
  · rw [if_neg h6] at hb
    obtain ⟨c, -, g⟩ := Option.bind_eq_some_iff.1 hb
    obtain ⟨r, -, g2⟩ := Option.bind_eq_some_iff.1 g
    split at g2
    · rename_i hz; cases g2; exact lrest_most hz
    · cases g2

theorem decOut_two (l : List Nat) : (∃ y, decOut 2 l = (y, 0) ∧ y.length ≤ 1000000) ∨ decOut 2 l = ([], 2) := by
  unfold decOut
  cases h : decD (unpack l) with
  | none => exact .inr rfl
  | some x =>
    refine .inl ⟨x, rfl, ?_⟩
    have := decD_most h
    omega

end Go.Proofs.YtejgkgnocgplbaaGreat
