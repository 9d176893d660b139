/- The table as it lies in memory; New, Made, fill, Once. -/
import Derived.Test.YthcjgcfmodkiiaaCrc2
import Derived.Defers
import Derived.Laws.Pointers
import Derived.Laws.LoneSync
import Derived.RegionTactic
import Derived.RegionCalls
import Derived.ChangeAlike
namespace Go.Proofs.Ythcjgcfmodkiiaa
set_option linter.unusedVariables false
set_option linter.unusedSimpArgs false
open Go.RowKit Dg Cr

/-- A row of the table. -/
def rowOf (i : Nat) : BitVec 32 := upN 8 (BitVec.ofNat 32 i <<< 24)
/-- The rows, the first k of them made. -/
def rowsTo (k : Nat) : List Value := (List.range 256).map fun i => if i < k then u32v (rowOf i) else .int .u32 0
/-- The table's cells: done, the lock's two, made, the rows. -/
def tb (done lock made : Int) (k : Nat) : List Value := [.int .u32 done, .int .i32 lock, .int .u32 0, .int .u32 made] ++ rowsTo k

theorem Try.zeroTable (w : World) : Sem.run Try.prog (zeroValue 53) w = .ok (.agg (tb 0 0 0 0).toArray) w := by kernel_rfl
theorem length_rowsTo (k : Nat) : (rowsTo k).length = 256 := by simp [rowsTo]
theorem length_tb (d l m : Int) (k : Nat) : (tb d l m k).length = 260 := by simp [tb, length_rowsTo]

set_option maxHeartbeats 1000000 in
theorem new_raw (w : World) :
    Calls Try.prog 10 #[] w fun e w' => e = .returned (.pointer (some ⟨w.heap.size, 0, none⟩)) ∧ w' = w.alloc (.cells (tb 0 0 0 0).toArray 53) := by
  obtain ⟨Z, hZ⟩ : ∃ Z, Z = (tb 0 0 0 0).toArray := ⟨_, rfl⟩
  have hz : ∀ w, Sem.run Try.prog (zeroValue 53) w = .ok (.agg Z) w := fun w => by rw [hZ]; exact Try.zeroTable w
  have hs : Z.size = 260 := by rw [hZ]; simp [length_tb]
  have hn : ¬ Z = #[] := fun h => by rw [h] at hs; simp at hs
  have HZ : Hid (Z = (tb 0 0 0 0).toArray) := hZ
  rw [← hZ]
  clear hZ
  go_enter Try.func10, Try.ntmps10
  go_wp2
  go_ret
  exact ⟨rfl, rfl⟩

/-- The table at block b. -/
def TbIs (w : World) (b : Nat) (d l m : Int) (k : Nat) : Prop := w.heap[b]? = some (.cells (tb d l m k).toArray 53 (0, 0))
theorem TbIs.lt {w : World} {b : Nat} {d l m : Int} {k : Nat} (h : TbIs w b d l m k) : b < w.heap.size := (Array.getElem?_eq_some_iff.1 h).1
theorem TbIs.cell {w : World} {b : Nat} {d l m : Int} {k : Nat} (h : TbIs w b d l m k) (o : Nat) : w.cell? ⟨b, o, none⟩ = (tb d l m k)[o]? := by
  have h' : w.heap[b]? = some (.cells (tb d l m k).toArray 53 (0, 0)) := h
  simp only [World.cell?, h']
  simp
theorem TbIs.froz {w : World} {b : Nat} {d l m : Int} {k : Nat} (h : TbIs w b d l m k) (o : Nat) : w.frozen? ⟨b, o, none⟩ = false := by
  have h' : w.heap[b]? = some (.cells (tb d l m k).toArray 53 (0, 0)) := h
  simp [World.frozen?, h']
theorem TbIs.kept {w w' : World} {b : Nat} {d l m : Int} {k : Nat} {F : Nat → Prop} (h : TbIs w b d l m k) (hk : Kept F w w') (hF : ¬ F b) : TbIs w' b d l m k := by
  show w'.heap[b]? = _
  rw [hk.block b h.lt hF]; exact h
theorem TbIs.set {w : World} {b : Nat} {d l m d' l' m' : Int} {k k' : Nat} (h : TbIs w b d l m k) (o : Nat) (u : Value) (e : (tb d l m k).set o u = tb d' l' m' k') : TbIs (w.setCell ⟨b, o, none⟩ u) b d' l' m' k' := by
  show (w.setCell ⟨b, o, none⟩ u).heap[b]? = _
  rw [heap_setCell_of h u, ← e]
  simp
theorem TbIs.drew {w : World} {b : Nat} {d l m : Int} {k : Nat} (h : TbIs w b d l m k) : TbIs w.drew b d l m k := h
theorem rowsTo_get (k i : Nat) (h : i < 256) : (rowsTo k)[i]? = some (if i < k then u32v (rowOf i) else .int .u32 0) := by simp [rowsTo, h]
theorem tb_row (d l m : Int) (k i : Nat) : (tb d l m k)[4 + i]? = (rowsTo k)[i]? := by
  rw [Nat.add_comm]; rfl
theorem rowsTo_set (k : Nat) (hk : k < 256) : (rowsTo k).set k (u32v (rowOf k)) = rowsTo (k + 1) := by
  apply List.ext_getElem?
  intro i
  rw [List.getElem?_set]
  by_cases hi : i < 256
  · rw [rowsTo_get _ _ hi, rowsTo_get _ _ hi]
    by_cases e : k = i
    · subst e; simp [length_rowsTo, hk]
    · rw [if_neg e]
      by_cases h1 : i < k
      · rw [if_pos h1, if_pos (by omega)]
      · rw [if_neg h1, if_neg (by omega)]
  · rw [if_neg (by omega), List.getElem?_eq_none (by rw [length_rowsTo]; omega), List.getElem?_eq_none (by rw [length_rowsTo]; omega)]
theorem tb_set_row (d l m : Int) (k : Nat) (hk : k < 256) : (tb d l m k).set (4 + k) (u32v (rowOf k)) = tb d l m (k + 1) := by
  unfold tb
  rw [← rowsTo_set k hk, Nat.add_comm]
  rfl
theorem row_num (k : Nat) (hk : k < 256) : (k : Int) * 16777216 = (((BitVec.ofNat 32 k <<< 24).toNat : Nat) : Int) := by
  rw [BitVec.toNat_shiftLeft, BitVec.toNat_ofNat, Nat.shiftLeft_eq]
  omega
theorem row_num' (k : Nat) (hk : k < 256) : IntKind.u32.wrap (IntKind.u32.wrap (k : Int) * 16777216) = (((BitVec.ofNat 32 k <<< 24).toNat : Nat) : Int) := by
  rw [← row_num k hk, IntKind.wrap_u32', IntKind.wrap_u32']
  omega

theorem s_disable (w : World) : (callFunc 37 #[]).run Try.prog w = .ok (.value (.tuple #[])) w := run_call_mark0 Try.func37 (by kernel_rfl) (by kernel_rfl) (by kernel_rfl) .disable (by kernel_rfl) w
theorem s_enable (w : World) : (callFunc 39 #[]).run Try.prog w = .ok (.value (.tuple #[])) w := run_call_mark0 Try.func39 (by kernel_rfl) (by kernel_rfl) (by kernel_rfl) .enable (by kernel_rfl) w
theorem s_acquire (a : Addr) (w : World) : (callFunc 40 #[.pointer (some a)]).run Try.prog w = .ok (.value (.tuple #[])) w := run_call_marked Try.func40 (by kernel_rfl) (by kernel_rfl) (by kernel_rfl) .acquire (by kernel_rfl) a w
theorem s_releaseMerge (a : Addr) (w : World) : (callFunc 42 #[.pointer (some a)]).run Try.prog w = .ok (.value (.tuple #[])) w := run_call_marked Try.func42 (by kernel_rfl) (by kernel_rfl) (by kernel_rfl) .releaseMerge (by kernel_rfl) a w

/-- '(*sync/atomic.Bool).Store(true)', entered as a deferred call. -/
theorem store_deferred (a : Addr) (x : Value) (u : FrameMode) (w : World) (hc : w.cell? a = some x) (hz : w.frozen? a = false) :
    CallsD Try.prog 29 #[.pointer (some a), .bool true] u w fun e u' w' => u' = u ∧ (e = .returned (.tuple #[]) ∧ w' = w.drew.setCell a (.int .u32 1)) := by
  have hc' : w.drew.cell? a = some x := by go_simp
  have hz' : w.drew.frozen? a = false := by go_simp
  have hst := run_call_store (P := Try.prog) Try.func33 (by kernel_rfl) (by kernel_rfl) (by kernel_rfl) (by kernel_rfl) (k := .u32) (y := 1) hc' hz'
  go_enter_d Try.func29, Try.ntmps29
  go_wp2
  go_region_calls
  all_goals (go_end0; exact ⟨rfl, rfl⟩)
/-- The same as a plain call. -/
theorem store_plain (a : Addr) (x : Value) (w : World) (hc : w.cell? a = some x) (hz : w.frozen? a = false) :
    Calls Try.prog 29 #[.pointer (some a), .bool true] w fun e w' => e = .returned (.tuple #[]) ∧ w' = w.drew.setCell a (.int .u32 1) := by
  have hc' : w.drew.cell? a = some x := by go_simp
  have hz' : w.drew.frozen? a = false := by go_simp
  have hst := run_call_store (P := Try.prog) Try.func33 (by kernel_rfl) (by kernel_rfl) (by kernel_rfl) (by kernel_rfl) (k := .u32) (y := 1) hc' hz'
  go_enter Try.func29, Try.ntmps29
  go_wp2
  go_region_calls
  all_goals (go_end0; exact ⟨rfl, rfl⟩)
theorem load_plain (a : Addr) (d : Int) (w : World) (h0 : w.cell? a = some (.int .u32 d)) :
    Calls Try.prog 27 #[.pointer (some a)] w fun e w' => e = .returned (.bool (d != 0)) ∧ w = w' := by
  have hl := run_call_load (P := Try.prog) Try.func30 (by kernel_rfl) (by kernel_rfl) (by kernel_rfl) .u32 (by kernel_rfl) h0
  go_enter Try.func27, Try.ntmps27
  go_wp2
  go_ret
  exact ⟨rfl, rfl⟩
/-- '(*sync.Mutex).Unlock', entered as a deferred call, the lock held and nobody waiting. -/
theorem unlock_deferred (a : Addr) (u : FrameMode) (w : World) (hc : w.cell? a = some (.int .i32 1)) (hz : w.frozen? a = false) :
    CallsD Try.prog 32 #[.pointer (some a)] u w fun e u' w' => u' = u ∧ (e = .returned (.tuple #[]) ∧ w' = w.setCell a (.int .i32 0)) := by
  have hd := s_disable
  have he := s_enable
  have hr := s_releaseMerge
  have hadd := run_call_add (P := Try.prog) Try.func43 (by kernel_rfl) (by kernel_rfl) (by kernel_rfl) .i32 (by kernel_rfl) (y := -1) (s := 0) hc hz (by simp [go_sem]; rfl)
  have hcv := run_convert_to_unsafe (P := Try.prog) (src := 64) (dst := 68) Try.underlying64 Try.underlying68 (by kernel_rfl) hc
  go_enter_d Try.func32, Try.ntmps32
  go_wp2
  go_end0
  go_wp2
  all_goals (go_end0; exact ⟨rfl, rfl⟩)
/-- '(*sync.Mutex).Lock', the lock free. -/
theorem lock_free (a : Addr) (w : World) (hc : w.cell? a = some (.int .i32 0)) (hz : w.frozen? a = false) :
    Calls Try.prog 31 #[.pointer (some a)] w fun e w' => e = .returned (.tuple #[]) ∧ w' = w.setCell a (.int .i32 1) := by
  have hd := s_disable
  have he := s_enable
  have ha := s_acquire
  have hcas := run_call_cas_hit (P := Try.prog) Try.func38 (by kernel_rfl) (by kernel_rfl) (by kernel_rfl) .i32 (by kernel_rfl) (y := 1) hc hz
  have hc' : (w.setCell a (.int .i32 1)).cell? a = some (.int .i32 1) := World.cell?_setCell_same w a _ hc
  have hcv := run_convert_to_unsafe (P := Try.prog) (src := 64) (dst := 68) Try.underlying64 Try.underlying68 (by kernel_rfl) hc'
  go_enter Try.func31, Try.ntmps31
  go_wp2
  first | go_end0 | (simp only [Exit.inBlock, Exit.then]; refine bodyPost_ret (results_none rfl _ _ _) rfl ?_) | refine bodyPost_ret (results_none rfl _ _ _) rfl ?_
  go_wp2
  all_goals (go_end0; exact ⟨rfl, rfl⟩)

set_option maxRecDepth 100000 in
set_option maxHeartbeats 1000000 in
theorem fill_any (w : World) (b : Nat) (d l : Int) (h : TbIs w b d l 0 0) :
    Calls Try.prog 26 #[.pointer (some ⟨b, 0, none⟩)] w fun e w' => e = .returned (.tuple #[]) ∧ TbIs w' b d l 1 256 ∧ Kept (fun k => k = b) w w' := by
  have HT0 : Hid (TbIs w b d l 0 0) := h
  clear h
  go_enter Try.func26, Try.ntmps26
  go_wp2
  go_loopw [3] (fun i wr => ∃ j : Nat, j ≤ 256 ∧ i = .int .i64 j ∧ Hid (TbIs wr b d l 0 j) ∧ Hid (Kept (fun k => k = b) w wr)) (fun i _ => 256 - (intOf i).toNat)
  case atStart => exact ⟨0, by omega, rfl, HT0.out, Kept.refl _ _⟩
  case round =>
    obtain ⟨j, hj, rfl, ht, hk⟩ := hrel
    by_cases hj8 : j < 256
    · have hc : wr.cell? ⟨b, 4 + j, none⟩ = some (.int .u32 0) := by rw [ht.out.cell, tb_row, rowsTo_get _ _ hj8, if_neg (by omega)]
      have hf : wr.frozen? ⟨b, 4 + j, none⟩ = false := ht.out.froz _
      go_wp2
      go_region_with (go_at_call 24; rw [row_num' j hj8]; refine (moved_any _ _).mono ?_; rintro e w1 ⟨rfl, rfl⟩)
      all_goals go_wp2
      all_goals go_roundw
      case rel => exact ⟨j + 1, by omega, by go_num, (ht.out.drew).set _ _ (tb_set_row _ _ _ _ hj8), (hk.out.drew).trans (Kept.setCell _ _ _ rfl)⟩
      case measure => simp [intOf]; omega
    · have e : j = 256 := by omega
      subst e
      have hc : wr.cell? ⟨b, 3, none⟩ = some (.int .u32 0) := by rw [ht.out.cell]; rfl
      have hf : wr.frozen? ⟨b, 3, none⟩ = false := ht.out.froz _
      go_wp2_with (go_at_call 29; refine (store_plain ⟨b, 3, none⟩ _ _ hc hf).mono ?_; rintro e w1 ⟨rfl, rfl⟩)
      go_end0
      exact ⟨rfl, ht.out.drew.set _ _ rfl, (hk.out.drew).trans (Kept.setCell _ _ _ rfl)⟩

theorem lock_tb (w : World) (b : Nat) (d m : Int) (k : Nat) (h : TbIs w b d 0 m k) :
    Calls Try.prog 31 #[.pointer (some ⟨b, 1, none⟩)] w fun e w' => e = .returned (.tuple #[]) ∧ TbIs w' b d 1 m k ∧ Kept (fun k => k = b) w w' := by
  refine (lock_free ⟨b, 1, none⟩ w (by rw [h.cell]; rfl) (h.froz _)).mono ?_
  rintro e w' ⟨rfl, rfl⟩
  exact ⟨rfl, h.set _ _ rfl, Kept.setCell _ _ _ rfl⟩
theorem load_tb (w : World) (b : Nat) (d l m : Int) (k : Nat) (h : TbIs w b d l m k) :
    Calls Try.prog 27 #[.pointer (some ⟨b, 0, none⟩)] w fun e w' => e = .returned (.bool (d != 0)) ∧ w = w' :=
  load_plain ⟨b, 0, none⟩ d w (by rw [h.cell]; rfl)
theorem made_tb (w : World) (b : Nat) (d l m : Int) (k : Nat) (h : TbIs w b d l m k) :
    Calls Try.prog 27 #[.pointer (some ⟨b, 3, none⟩)] w fun e w' => e = .returned (.bool (m != 0)) ∧ w = w' :=
  load_plain ⟨b, 3, none⟩ m w (by rw [h.cell]; rfl)

end Go.Proofs.Ythcjgcfmodkiiaa
