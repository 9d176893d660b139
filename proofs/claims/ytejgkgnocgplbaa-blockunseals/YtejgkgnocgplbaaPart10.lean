/- The texts Crc3, Crc4, Crc5, BlkS, DecMost, BlkO, BlkP, one behind the other. -/
import Derived.Test.YtejgkgnocgplbaaPart09
import Derived.Defers
import Derived.Laws.Pointers
import Derived.Laws.LoneSync
import Derived.RegionTactic
import Derived.RegionCalls
import Derived.ChangeAlike
import Derived.Test.YtejgkgnocgplbaaPart07
import Derived.Laws.AppendOwnNone
import Derived.Laws.IdiomStrings
import Derived.Laws.BytesArg
import Derived.Lib.SliceRun

/- The table as it lies in memory; New, Made, fill, Once. -/
namespace Go.Proofs.Ytejgkgnocgplbaa
set_option linter.unusedVariables false
set_option maxRecDepth 100000
set_option linter.unusedSimpArgs false
open Go.RowKit Dg Cr

/-- A row of the table. -/
def rowOf (i : Nat) : BitVec 32 := upN 8 (BitVec.ofNat 32 i <<< 24)
/-- The rows, the first k of them made. -/
def rowsTo (k : Nat) : List Value := (List.range 256).map fun i => if i < k then u32v (rowOf i) else .int .u32 0
/-- The table's cells: done, the lock's two, made, the rows. -/
def tb (done lock made : Int) (k : Nat) : List Value := [.int .u32 done, .int .i32 lock, .int .u32 0, .int .u32 made] ++ rowsTo k

theorem Try.zeroTable (w : World) : Sem.run Try.prog (zeroValue 70) w = .ok (.agg (tb 0 0 0 0).toArray) w := by kernel_rfl
theorem length_rowsTo (k : Nat) : (rowsTo k).length = 256 := by simp [rowsTo]
theorem length_tb (d l m : Int) (k : Nat) : (tb d l m k).length = 260 := by simp [tb, length_rowsTo]

set_option maxHeartbeats 1000000 in
theorem new_raw (w : World) :
    Calls Try.prog 17 #[] w fun e w' => e = .returned (.pointer (some ⟨w.heap.size, 0, none⟩)) ∧ w' = w.alloc (.cells (tb 0 0 0 0).toArray 70) := by
  obtain ⟨Z, hZ⟩ : ∃ Z, Z = (tb 0 0 0 0).toArray := ⟨_, rfl⟩
  have hz : ∀ w, Sem.run Try.prog (zeroValue 70) w = .ok (.agg Z) w := fun w => by rw [hZ]; exact Try.zeroTable w
  have hs : Z.size = 260 := by rw [hZ]; simp [length_tb]
  have hn : ¬ Z = #[] := fun h => by rw [h] at hs; simp at hs
  have HZ : Hid (Z = (tb 0 0 0 0).toArray) := hZ
  rw [← hZ]
  clear hZ
  go_enter Try.func17, Try.ntmps17
  go_wp2
  go_ret
  exact ⟨rfl, rfl⟩

/-- The table at block b. -/
def TbIs (w : World) (b : Nat) (d l m : Int) (k : Nat) : Prop := w.heap[b]? = some (.cells (tb d l m k).toArray 70 (0, 0))
theorem TbIs.lt {w : World} {b : Nat} {d l m : Int} {k : Nat} (h : TbIs w b d l m k) : b < w.heap.size := (Array.getElem?_eq_some_iff.1 h).1
theorem TbIs.cell {w : World} {b : Nat} {d l m : Int} {k : Nat} (h : TbIs w b d l m k) (o : Nat) : w.cell? ⟨b, o, none⟩ = (tb d l m k)[o]? := by
  have h' : w.heap[b]? = some (.cells (tb d l m k).toArray 70 (0, 0)) := h
  simp only [World.cell?, h']
  simp
theorem TbIs.froz {w : World} {b : Nat} {d l m : Int} {k : Nat} (h : TbIs w b d l m k) (o : Nat) : w.frozen? ⟨b, o, none⟩ = false := by
  have h' : w.heap[b]? = some (.cells (tb d l m k).toArray 70 (0, 0)) := h
  simp [World.frozen?, h']
theorem TbIs.kept {w w' : World} {b : Nat} {d l m : Int} {k : Nat} {F : Nat → Prop} (h : TbIs w b d l m k) (hk : Kept F w w') (hF : ¬ F b) : TbIs w' b d l m k := by
  show w'.heap[b]? = _
  rw [hk.block b h.lt hF]; exact h
theorem TbIs.set {w : World} {b : Nat} {d l m d' l' m' : Int} {k k' : Nat} (h : TbIs w b d l m k) (o : Nat) (u : Value) (e : (tb d l m k).set o u = tb d' l' m' k') : TbIs (w.setCell ⟨b, o, none⟩ u) b d' l' m' k' := by
  show (w.setCell ⟨b, o, none⟩ u).heap[b]? = _
  rw [heap_setCell_of h u, ← e]
  simp
theorem TbIs.drew {w : World} {b : Nat} {d l m : Int} {k : Nat} (h : TbIs w b d l m k) : TbIs w.drew b d l m k := h
theorem rowsTo_get (k i : Nat) (h : i < 256) : (rowsTo k)[i]? = some (if i < k then u32v (rowOf i) else .int .u32 0) := by simp [rowsTo, h]
theorem tb_row (d l m : Int) (k i : Nat) : (tb d l m k)[4 + i]? = (rowsTo k)[i]? := by
  rw [Nat.add_comm]; rfl
theorem rowsTo_set (k : Nat) (hk : k < 256) : (rowsTo k).set k (u32v (rowOf k)) = rowsTo (k + 1) := by
  apply List.ext_getElem?
  intro i
  rw [List.getElem?_set]
  by_cases hi : i < 256
  · rw [rowsTo_get _ _ hi, rowsTo_get _ _ hi]
    by_cases e : k = i
    · subst e; simp [length_rowsTo, hk]
    · rw [if_neg e]
      by_cases h1 : i < k
      · rw [if_pos h1, if_pos (by omega)]
      · rw [if_neg h1, if_neg (by omega)]
  · rw [if_neg (by omega), List.getElem?_eq_none (by rw [length_rowsTo]; omega), List.getElem?_eq_none (by rw [length_rowsTo]; omega)]
theorem tb_set_row (d l m : Int) (k : Nat) (hk : k < 256) : (tb d l m k).set (4 + k) (u32v (rowOf k)) = tb d l m (k + 1) := by
  unfold tb
  rw [← rowsTo_set k hk, Nat.add_comm]
  rfl
theorem row_num (k : Nat) (hk : k < 256) : (k : Int) * 16777216 = (((BitVec.ofNat 32 k <<< 24).toNat : Nat) : Int) := by
  rw [BitVec.toNat_shiftLeft, BitVec.toNat_ofNat, Nat.shiftLeft_eq]
  omega
theorem row_num' (k : Nat) (hk : k < 256) : IntKind.u32.wrap (IntKind.u32.wrap (k : Int) * 16777216) = (((BitVec.ofNat 32 k <<< 24).toNat : Nat) : Int) := by
  rw [← row_num k hk, IntKind.wrap_u32', IntKind.wrap_u32']
  omega

theorem s_disable (w : World) : (callFunc 86 #[]).run Try.prog w = .ok (.value (.tuple #[])) w := run_call_mark0 Try.func86 (by kernel_rfl) (by kernel_rfl) (by kernel_rfl) .disable (by kernel_rfl) w
theorem s_enable (w : World) : (callFunc 88 #[]).run Try.prog w = .ok (.value (.tuple #[])) w := run_call_mark0 Try.func88 (by kernel_rfl) (by kernel_rfl) (by kernel_rfl) .enable (by kernel_rfl) w
theorem s_acquire (a : Addr) (w : World) : (callFunc 89 #[.pointer (some a)]).run Try.prog w = .ok (.value (.tuple #[])) w := run_call_marked Try.func89 (by kernel_rfl) (by kernel_rfl) (by kernel_rfl) .acquire (by kernel_rfl) a w
theorem s_releaseMerge (a : Addr) (w : World) : (callFunc 91 #[.pointer (some a)]).run Try.prog w = .ok (.value (.tuple #[])) w := run_call_marked Try.func91 (by kernel_rfl) (by kernel_rfl) (by kernel_rfl) .releaseMerge (by kernel_rfl) a w

/-- '(*sync/atomic.Bool).Store(true)', entered as a deferred call. -/
theorem store_deferred (a : Addr) (x : Value) (u : FrameMode) (w : World) (hc : w.cell? a = some x) (hz : w.frozen? a = false) :
    CallsD Try.prog 68 #[.pointer (some a), .bool true] u w fun e u' w' => u' = u ∧ (e = .returned (.tuple #[]) ∧ w' = w.drew.setCell a (.int .u32 1)) := by
  have hc' : w.drew.cell? a = some x := by go_simp
  have hz' : w.drew.frozen? a = false := by go_simp
  have hst := run_call_store (P := Try.prog) Try.func81 (by kernel_rfl) (by kernel_rfl) (by kernel_rfl) (by kernel_rfl) (k := .u32) (y := 1) hc' hz'
  go_enter_d Try.func68, Try.ntmps68
  go_wp2
  go_region_calls
  all_goals (go_end0; exact ⟨rfl, rfl⟩)
/-- The same as a plain call. -/
theorem store_plain (a : Addr) (x : Value) (w : World) (hc : w.cell? a = some x) (hz : w.frozen? a = false) :
    Calls Try.prog 68 #[.pointer (some a), .bool true] w fun e w' => e = .returned (.tuple #[]) ∧ w' = w.drew.setCell a (.int .u32 1) := by
  have hc' : w.drew.cell? a = some x := by go_simp
  have hz' : w.drew.frozen? a = false := by go_simp
  have hst := run_call_store (P := Try.prog) Try.func81 (by kernel_rfl) (by kernel_rfl) (by kernel_rfl) (by kernel_rfl) (k := .u32) (y := 1) hc' hz'
  go_enter Try.func68, Try.ntmps68
  go_wp2
  go_region_calls
  all_goals (go_end0; exact ⟨rfl, rfl⟩)
theorem load_plain (a : Addr) (d : Int) (w : World) (h0 : w.cell? a = some (.int .u32 d)) :
    Calls Try.prog 65 #[.pointer (some a)] w fun e w' => e = .returned (.bool (d != 0)) ∧ w = w' := by
  have hl := run_call_load (P := Try.prog) Try.func78 (by kernel_rfl) (by kernel_rfl) (by kernel_rfl) .u32 (by kernel_rfl) h0
  go_enter Try.func65, Try.ntmps65
  go_wp2
  go_ret
  exact ⟨rfl, rfl⟩
/-- '(*sync.Mutex).Unlock', entered as a deferred call, the lock held and nobody waiting. -/
theorem unlock_deferred (a : Addr) (u : FrameMode) (w : World) (hc : w.cell? a = some (.int .i32 1)) (hz : w.frozen? a = false) :
    CallsD Try.prog 80 #[.pointer (some a)] u w fun e u' w' => u' = u ∧ (e = .returned (.tuple #[]) ∧ w' = w.setCell a (.int .i32 0)) := by
  have hd := s_disable
  have he := s_enable
  have hr := s_releaseMerge
  have hadd := run_call_add (P := Try.prog) Try.func92 (by kernel_rfl) (by kernel_rfl) (by kernel_rfl) .i32 (by kernel_rfl) (y := -1) (s := 0) hc hz (by simp [go_sem]; rfl)
  have hcv := run_convert_to_unsafe (P := Try.prog) (src := 119) (dst := 123) Try.underlying119 Try.underlying123 (by kernel_rfl) hc
  go_enter_d Try.func80, Try.ntmps80
  go_wp2
  go_end0
  go_wp2
  all_goals (go_end0; exact ⟨rfl, rfl⟩)
/-- '(*sync.Mutex).Lock', the lock free. -/
theorem lock_free (a : Addr) (w : World) (hc : w.cell? a = some (.int .i32 0)) (hz : w.frozen? a = false) :
    Calls Try.prog 79 #[.pointer (some a)] w fun e w' => e = .returned (.tuple #[]) ∧ w' = w.setCell a (.int .i32 1) := by
  have hd := s_disable
  have he := s_enable
  have ha := s_acquire
  have hcas := run_call_cas_hit (P := Try.prog) Try.func87 (by kernel_rfl) (by kernel_rfl) (by kernel_rfl) .i32 (by kernel_rfl) (y := 1) hc hz
  have hc' : (w.setCell a (.int .i32 1)).cell? a = some (.int .i32 1) := World.cell?_setCell_same w a _ hc
  have hcv := run_convert_to_unsafe (P := Try.prog) (src := 119) (dst := 123) Try.underlying119 Try.underlying123 (by kernel_rfl) hc'
  go_enter Try.func79, Try.ntmps79
  go_wp2
  first | go_end0 | (simp only [Exit.inBlock, Exit.then]; refine bodyPost_ret (results_none rfl _ _ _) rfl ?_) | refine bodyPost_ret (results_none rfl _ _ _) rfl ?_
  go_wp2
  all_goals (go_end0; exact ⟨rfl, rfl⟩)

set_option maxRecDepth 100000 in
set_option maxHeartbeats 1000000 in
theorem fill_any (w : World) (b : Nat) (d l : Int) (h : TbIs w b d l 0 0) :
    Calls Try.prog 50 #[.pointer (some ⟨b, 0, none⟩)] w fun e w' => e = .returned (.tuple #[]) ∧ TbIs w' b d l 1 256 ∧ Kept (fun k => k = b) w w' := by
  have HT0 : Hid (TbIs w b d l 0 0) := h
  clear h
  go_enter Try.func50, Try.ntmps50
  go_wp2
  go_loopw [3] (fun i wr => ∃ j : Nat, j ≤ 256 ∧ i = .int .i64 j ∧ Hid (TbIs wr b d l 0 j) ∧ Hid (Kept (fun k => k = b) w wr)) (fun i _ => 256 - (intOf i).toNat)
  case atStart => exact ⟨0, by omega, rfl, HT0.out, Kept.refl _ _⟩
  case round =>
    obtain ⟨j, hj, rfl, ht, hk⟩ := hrel
    by_cases hj8 : j < 256
    · have hc : wr.cell? ⟨b, 4 + j, none⟩ = some (.int .u32 0) := by rw [ht.out.cell, tb_row, rowsTo_get _ _ hj8, if_neg (by omega)]
      have hf : wr.frozen? ⟨b, 4 + j, none⟩ = false := ht.out.froz _
      go_wp2
      go_region_with (go_at_call 67; rw [row_num' j hj8]; refine (moved_any _ _).mono ?_; rintro e w1 ⟨rfl, rfl⟩)
      all_goals go_wp2
      all_goals go_roundw
      case rel => exact ⟨j + 1, by omega, by go_num, (ht.out.drew).set _ _ (tb_set_row _ _ _ _ hj8), (hk.out.drew).trans (Kept.setCell _ _ _ rfl)⟩
      case measure => simp [intOf]; omega
    · have e : j = 256 := by omega
      subst e
      have hc : wr.cell? ⟨b, 3, none⟩ = some (.int .u32 0) := by rw [ht.out.cell]; rfl
      have hf : wr.frozen? ⟨b, 3, none⟩ = false := ht.out.froz _
      go_wp2_with (go_at_call 68; refine (store_plain ⟨b, 3, none⟩ _ _ hc hf).mono ?_; rintro e w1 ⟨rfl, rfl⟩)
      go_end0
      exact ⟨rfl, ht.out.drew.set _ _ rfl, (hk.out.drew).trans (Kept.setCell _ _ _ rfl)⟩

theorem lock_tb (w : World) (b : Nat) (d m : Int) (k : Nat) (h : TbIs w b d 0 m k) :
    Calls Try.prog 79 #[.pointer (some ⟨b, 1, none⟩)] w fun e w' => e = .returned (.tuple #[]) ∧ TbIs w' b d 1 m k ∧ Kept (fun k => k = b) w w' := by
  refine (lock_free ⟨b, 1, none⟩ w (by rw [h.cell]; rfl) (h.froz _)).mono ?_
  rintro e w' ⟨rfl, rfl⟩
  exact ⟨rfl, h.set _ _ rfl, Kept.setCell _ _ _ rfl⟩
theorem load_tb (w : World) (b : Nat) (d l m : Int) (k : Nat) (h : TbIs w b d l m k) :
    Calls Try.prog 65 #[.pointer (some ⟨b, 0, none⟩)] w fun e w' => e = .returned (.bool (d != 0)) ∧ w = w' :=
  load_plain ⟨b, 0, none⟩ d w (by rw [h.cell]; rfl)
theorem made_tb (w : World) (b : Nat) (d l m : Int) (k : Nat) (h : TbIs w b d l m k) :
    Calls Try.prog 65 #[.pointer (some ⟨b, 3, none⟩)] w fun e w' => e = .returned (.bool (m != 0)) ∧ w = w' :=
  load_plain ⟨b, 3, none⟩ m w (by rw [h.cell]; rfl)

end Go.Proofs.Ytejgkgnocgplbaa

/- The table's calls: Once, Add, Sum, Made, New. -/
namespace Go.Proofs.Ytejgkgnocgplbaa
set_option linter.unusedVariables false
set_option maxRecDepth 100000
set_option linter.unusedSimpArgs false
open Go.RowKit Dg Cr

set_option maxRecDepth 100000 in
set_option maxHeartbeats 1600000 in
theorem doSlow_any (w : World) (b : Nat) (h : TbIs w b 0 0 0 0) :
    Calls Try.prog 66 #[.pointer (some ⟨b, 0, none⟩), .func (.func 50) #[.pointer (some ⟨b, 0, none⟩)] #[]] w fun e w' => e = .returned (.tuple #[]) ∧ TbIs w' b 1 0 1 256 ∧ Kept (fun k => k = b) w w' := by
  have HT0 : Hid (TbIs w b 0 0 0 0) := h
  clear h
  have hnot : ∀ (x : Bool) (w : World), (Op.unary .not (.bool x)).run Try.prog w = .ok (.bool (!x)) w := fun _ _ => rfl
  go_enter_defers Try.func66, Try.ntmps66
  go_wp2_with (first
    | (go_at_call 79; refine (lock_tb _ _ _ _ _ HT0.out).mono ?_; rintro e w1 ⟨rfl, ht1, hk1⟩; have HT1 : Hid (TbIs w1 b 0 1 0 0) := ht1; have HK1 : Hid (Kept (fun k => k = b) w w1) := hk1; clear ht1 hk1)
    | (go_at_call 65; refine (load_tb _ _ _ _ _ _ HT1.out).mono ?_; rintro e w2 ⟨rfl, rfl⟩)
    | (go_at_call 50; refine (fill_any _ _ _ _ HT1.out).mono ?_; rintro e w2 ⟨rfl, ht2, hk2⟩; have HT2 : Hid (TbIs w2 b 0 1 1 256) := ht2; have HK2 : Hid (Kept (fun k => k = b) w w2) := HK1.out.trans hk2; clear ht2 hk2))
  go_wp2
  refine leaves_cons (f := 68) (args := #[.pointer (some ⟨b, 0, none⟩), .bool true]) (by simp) (by simp [go_sem]) ?_
  refine (store_deferred ⟨b, 0, none⟩ (.int .u32 0) .returning _ (by rw [HT2.out.cell]; rfl) (HT2.out.froz _)).mono ?_
  rintro e u' w3 ⟨rfl, rfl, rfl⟩
  have HT3 : TbIs (w2.drew.setCell ⟨b, 0, none⟩ (.int .u32 1)) b 1 1 1 256 := HT2.out.drew.set _ _ rfl
  have HK3 : Kept (fun k => k = b) w (w2.drew.setCell ⟨b, 0, none⟩ (.int .u32 1)) := (HK2.out.drew).trans (Kept.setCell _ _ _ rfl)
  refine leaves_cons (f := 80) (args := #[.pointer (some ⟨b, 1, none⟩)]) (by simp [settle]) (by simp [go_sem]) ?_
  refine (unlock_deferred ⟨b, 1, none⟩ _ _ (by rw [HT3.cell]; rfl) (HT3.froz _)).mono ?_
  rintro e u' w4 ⟨rfl, rfl, rfl⟩
  have HT4 : TbIs ((w2.drew.setCell ⟨b, 0, none⟩ (.int .u32 1)).setCell ⟨b, 1, none⟩ (.int .i32 0)) b 1 0 1 256 := HT3.set _ _ rfl
  have HK4 : Kept (fun k => k = b) w ((w2.drew.setCell ⟨b, 0, none⟩ (.int .u32 1)).setCell ⟨b, 1, none⟩ (.int .i32 0)) := HK3.trans (Kept.setCell _ _ _ rfl)
  simp [Leaves, settle, results, Try.results66]
  exact ⟨HT4, HK4⟩

/-- A table, made or not. -/
def TbAt (w : World) (b : Nat) (made : Bool) : Prop := if made then TbIs w b 1 0 1 256 else TbIs w b 0 0 0 0
theorem TbAt.kept {w w' : World} {b : Nat} {m : Bool} {F : Nat → Prop} (h : TbAt w b m) (hk : Kept F w w') (hF : ¬ F b) : TbAt w' b m := by
  unfold TbAt at h ⊢
  cases m
  · exact TbIs.kept h hk hF
  · exact TbIs.kept h hk hF
theorem TbAt.lt {w : World} {b : Nat} {m : Bool} (h : TbAt w b m) : b < w.heap.size := by
  unfold TbAt at h
  cases m
  · exact TbIs.lt h
  · exact TbIs.lt h
theorem TbAt.below {w w' : World} {b B : Nat} {m : Bool} (h : TbAt w b m) (hb : Below B w w') (hB : b < B) : TbAt w' b m := by
  have e : w'.heap[b]? = w.heap[b]? := hb.block b hB
  unfold TbAt TbIs at h ⊢
  cases m
  · simp only [Bool.false_eq_true, if_false] at h ⊢; rw [e]; exact h
  · simp only [if_true] at h ⊢; rw [e]; exact h

set_option maxHeartbeats 1000000 in
theorem do_first (w : World) (b : Nat) (h : TbIs w b 0 0 0 0) :
    Calls Try.prog 49 #[.pointer (some ⟨b, 0, none⟩), .func (.func 50) #[.pointer (some ⟨b, 0, none⟩)] #[]] w fun e w' => e = .returned (.tuple #[]) ∧ TbIs w' b 1 0 1 256 ∧ Kept (fun k => k = b) w w' := by
  have HT0 : Hid (TbIs w b 0 0 0 0) := h
  clear h
  have hnot : ∀ (x : Bool) (w : World), (Op.unary .not (.bool x)).run Try.prog w = .ok (.bool (!x)) w := fun _ _ => rfl
  go_enter Try.func49, Try.ntmps49
  go_wp2_with (first
    | (go_at_call 65; refine (load_tb _ _ _ _ _ _ HT0.out).mono ?_; rintro e w2 ⟨rfl, rfl⟩)
    | (go_at_call 66; refine (doSlow_any _ _ HT0.out).mono ?_; rintro e w2 ⟨rfl, ht2, hk2⟩; have HT2 : Hid (TbIs w2 b 1 0 1 256) := ht2; have HK2 : Hid (Kept (fun k => k = b) w w2) := hk2; clear ht2 hk2))
  go_end0
  exact ⟨rfl, HT2.out, HK2.out⟩

set_option maxHeartbeats 1000000 in
theorem do_done (w : World) (b : Nat) (fv : Value) (h : TbIs w b 1 0 1 256) :
    Calls Try.prog 49 #[.pointer (some ⟨b, 0, none⟩), fv] w fun e w' => e = .returned (.tuple #[]) ∧ w = w' := by
  have HT0 : Hid (TbIs w b 1 0 1 256) := h
  clear h
  have hnot : ∀ (x : Bool) (w : World), (Op.unary .not (.bool x)).run Try.prog w = .ok (.bool (!x)) w := fun _ _ => rfl
  go_enter Try.func49, Try.ntmps49
  go_wp2_with (first
    | (go_at_call 65; refine (load_tb _ _ _ _ _ _ HT0.out).mono ?_; rintro e w2 ⟨rfl, rfl⟩))
  go_end0
  exact ⟨rfl, rfl⟩

theorem do_any (w : World) (b : Nat) (m : Bool) (h : TbAt w b m) :
    Calls Try.prog 49 #[.pointer (some ⟨b, 0, none⟩), .func (.func 50) #[.pointer (some ⟨b, 0, none⟩)] #[]] w fun e w' => e = .returned (.tuple #[]) ∧ TbIs w' b 1 0 1 256 ∧ Kept (fun k => k = b) w w' := by
  cases m
  · exact do_first w b h
  · have h' : TbIs w b 1 0 1 256 := h
    refine (do_done w b _ h').mono ?_
    rintro e w' ⟨rfl, rfl⟩
    exact ⟨rfl, h', Kept.refl _ _⟩

theorem add_row (v : BitVec 32) (x c : Nat) (hx : x = v.toNat) (hc : c < 256) : bits BinOp.xor IntKind.u8 ((x : Int) / 16777216) (c : Int) = ((x / 16777216 ^^^ c : Nat) : Int) := by
  have hlt := v.isLt
  have e : (x : Int) / 16777216 = ((x / 16777216 : Nat) : Int) := by omega
  rw [e, u8_xor_nat _ _ (by omega) hc]
theorem row_lt (v : BitVec 32) (x c : Nat) (hx : x = v.toNat) (hc : c < 256) : x / 16777216 ^^^ c < 256 := by
  have hlt := v.isLt
  exact Nat.xor_lt_two_pow (n := 8) (by omega) hc

theorem tab_num (v : BitVec 32) (x c r y : Nat) (hx : x = v.toNat) (hc : c < 256) (hr : r = x / 16777216 ^^^ c) (hy : y = (rowOf r).toNat) :
    bits BinOp.xor IntKind.u32 ((x : Int) * 256 % 4294967296) (y : Int) = (((stepB v c).toNat : Nat) : Int) := by
  have hlt := v.isLt
  rw [← hx] at hlt
  have hr256 := row_lt v x c hx hc
  rw [← hr] at hr256
  have e1 : (x : Int) * 256 % 4294967296 = ((x * 256 % 4294967296 : Nat) : Int) := by omega
  have hy32 : y < 4294967296 := by rw [hy]; exact (rowOf r).isLt
  rw [e1, u32_xor_nat _ _ (by omega) hy32, step_table]
  congr 1
  have e2 : (v >>> 24) ^^^ BitVec.ofNat 32 c = BitVec.ofNat 32 r := by
    apply BitVec.eq_of_toNat_eq
    rw [BitVec.toNat_xor, BitVec.toNat_ushiftRight, ← hx, BitVec.toNat_ofNat, BitVec.toNat_ofNat, Nat.shiftRight_eq_div_pow, Nat.mod_eq_of_lt (show c < 2 ^ 32 by omega), Nat.mod_eq_of_lt (show r < 2 ^ 32 by omega), hr]
  rw [e2, BitVec.toNat_xor, BitVec.toNat_shiftLeft, ← hx, Nat.shiftLeft_eq, hy]
  rfl

set_option maxRecDepth 100000 in
set_option maxHeartbeats 1600000 in
theorem add_full (w : World) (b : Nat) (m : Bool) (v : BitVec 32) (sv : Value) (l : List Nat) (ht : TbAt w b m) (h : SlAt w sv l) (hne : l ≠ []) (hf : ∀ k, sv.ownBlock = some k → k ≠ b) (hl : l.length ≤ 1000000) (h256 : ∀ x ∈ l, x < 256) :
    Calls Try.prog 43 #[.pointer (some ⟨b, 0, none⟩), u32v v, sv] w fun e w' => e = .returned (u32v (crc v l)) ∧ TbIs w' b 1 0 1 256 ∧ Kept (fun k => k = b) w w' := by
  have HT0 : Hid (TbAt w b m) := ht
  have HS0 : Hid (SlAt w sv l) := h
  have H2 : Hid (∀ x ∈ l, x < 256) := h256
  have HF : Hid (∀ k, sv.ownBlock = some k → k ≠ b) := hf
  obtain ⟨a1, c1, rfl, hc1⟩ := h
  have hpos : 0 < l.length := List.length_pos_iff.2 hne
  have hl0 : ((l.length : Int) == 0) = false := by simp; omega
  have hmf : ∀ (fn : Fn) (first cap : Array Value) (w : World), (Instr.makeFunc fn first cap).run Try.prog w = .ok (.func fn first cap) w := fun _ _ _ _ => rfl
  clear ht hc1 h256 hf hne
  go_enter Try.func43, Try.ntmps43
  go_wp2_with (go_at_call 49; refine (do_any _ _ _ HT0.out).mono ?_; rintro e w1 ⟨rfl, ht1, hk1⟩; have HT1 : Hid (TbIs w1 b 1 0 1 256) := ht1; have HK1 : Hid (Kept (fun k => k = b) w w1) := hk1; clear ht1 hk1)
  have HS1 : Hid (SlAt w1 (.slice a1 l.length c1) l) := HS0.out.kept HK1.out (fun k h1 h2 => HF.out k h1 h2)
  go_loopw [1, 21] (fun s i wr => ∃ j x : Nat, j ≤ l.length ∧ i = .int .i64 j ∧ s = .int .u32 (x : Int) ∧ Hid (x = (crc v (l.take j)).toNat) ∧ w1 = wr) (fun _ i _ => l.length - (intOf i).toNat)
  case atStart => exact ⟨0, v.toNat, by omega, rfl, rfl, rfl, rfl⟩
  case round =>
    obtain ⟨j, x, hj, rfl, rfl, hx, rfl⟩ := hrel
    have hx32 : x < 4294967296 := by rw [hx.out]; exact BitVec.isLt _
    by_cases hjl : j < l.length
    · have hcc := HS1.out
      obtain ⟨ao, cc, hv, hcell⟩ := hcc
      cases hv
      obtain ⟨b1, o1, rfl, e1⟩ := hcell j l[j] (by simp [hjl])
      clear hcell
      obtain ⟨c, hc⟩ : ∃ c : Nat, c = l[j] := ⟨_, rfl⟩
      have hc256 : c < 256 := by rw [hc]; exact H2.out _ (by simp)
      have HT : Hid (l[j]? = some c) := by show _ = _; rw [hc]; simp [hjl]
      rw [← hc] at e1
      clear hc
      obtain ⟨r, hr⟩ : ∃ r : Nat, r = x / 16777216 ^^^ c := ⟨_, rfl⟩
      have hr256 : r < 256 := by rw [hr]; exact row_lt _ x c hx.out hc256
      have hrow := add_row _ x c hx.out hc256
      rw [← hr] at hrow
      have hcr : w1.cell? ⟨b, 4 + r, none⟩ = some (u32v (rowOf r)) := by rw [HT1.out.cell, tb_row, rowsTo_get _ _ hr256, if_pos hr256]
      obtain ⟨y, hy⟩ : ∃ y : Nat, y = (rowOf r).toNat := ⟨_, rfl⟩
      have hcr' : w1.cell? ⟨b, 4 + r, none⟩ = some (.int .u32 (y : Int)) := by rw [hcr, hy]
      have HR : Hid (r = x / 16777216 ^^^ c) := hr
      have HY : Hid (y = (rowOf r).toNat) := hy
      clear hcr hr hy
      go_wp2
      rw [tab_num _ x c r y hx.out hc256 HR.out HY.out]
      go_roundw
      case rel => exact ⟨j + 1, _, by omega, by go_num, rfl, by rw [crc_take _ _ _ _ HT.out]; rfl, by trivial⟩
      case measure => simp [intOf]; omega
    · have e : j = l.length := by omega
      go_wp2
      go_ret
      rw [hx.out, e, List.take_length]
      exact ⟨rfl, HT1.out, HK1.out⟩

set_option maxHeartbeats 400000 in
theorem add_empty (w : World) (b : Nat) (v : BitVec 32) (a : Option Addr) (c : Nat) :
    Calls Try.prog 43 #[.pointer (some ⟨b, 0, none⟩), u32v v, .slice a 0 c] w fun e w' => e = .returned (u32v v) ∧ w = w' := by
  go_enter Try.func43, Try.ntmps43
  go_wp2
  go_ret
  exact ⟨rfl, rfl⟩

/-- Add: the sum; the table is made behind it, if it was or there is a byte. -/
theorem tadd_any (w : World) (b : Nat) (m : Bool) (v : BitVec 32) (sv : Value) (l : List Nat) (ht : TbAt w b m) (h : SlAt w sv l) (hf : l ≠ [] → ∀ k, sv.ownBlock = some k → k ≠ b) (hl : l.length ≤ 1000000) (h256 : ∀ x ∈ l, x < 256) :
    Calls Try.prog 43 #[.pointer (some ⟨b, 0, none⟩), u32v v, sv] w fun e w' => e = .returned (u32v (crc v l)) ∧ TbAt w' b (m || !l.isEmpty) ∧ Kept (fun k => k = b) w w' := by
  by_cases hne : l = []
  · subst hne
    obtain ⟨a1, c1, rfl, hc1⟩ := h
    refine (add_empty w b v a1 c1).mono ?_
    rintro e w' ⟨rfl, rfl⟩
    exact ⟨rfl, by simpa using ht, Kept.refl _ _⟩
  · refine (add_full w b m v sv l ht h hne (hf hne) hl h256).mono ?_
    rintro e w' ⟨rfl, h1, h2⟩
    have e : (m || !l.isEmpty) = true := by cases l with
      | nil => exact absurd rfl hne
      | cons _ _ => simp
    exact ⟨rfl, by rw [e]; exact h1, h2⟩

set_option maxHeartbeats 400000 in
theorem tsum_any (w : World) (b : Nat) (m : Bool) (sv : Value) (l : List Nat) (ht : TbAt w b m) (h : SlAt w sv l) (hf : l ≠ [] → ∀ k, sv.ownBlock = some k → k ≠ b) (hl : l.length ≤ 1000000) (h256 : ∀ x ∈ l, x < 256) :
    Calls Try.prog 33 #[.pointer (some ⟨b, 0, none⟩), sv] w fun e w' => e = .returned (u32v (crc ones l)) ∧ TbAt w' b (m || !l.isEmpty) ∧ Kept (fun k => k = b) w w' := by
  have HC : Hid (Calls Try.prog 43 #[.pointer (some ⟨b, 0, none⟩), .int .u32 4294967295, sv] w fun e w' => e = .returned (u32v (crc ones l)) ∧ TbAt w' b (m || !l.isEmpty) ∧ Kept (fun k => k = b) w w') := tadd_any w b m ones sv l ht h hf hl h256
  clear ht h hf h256
  go_enter Try.func33, Try.ntmps33
  go_wp2_with (go_at_call 43; refine HC.out.mono ?_; rintro e w1 ⟨rfl, ht1, hk1⟩; have HT1 : Hid (TbAt w1 b (m || !l.isEmpty)) := ht1; have HK1 : Hid (Kept (fun k => k = b) w w1) := hk1; clear ht1 hk1)
  go_ret
  exact ⟨rfl, HT1.out, HK1.out⟩

theorem tnew_any (w : World) :
    Calls Try.prog 17 #[] w fun e w' => e = .returned (.pointer (some ⟨w.heap.size, 0, none⟩)) ∧ TbAt w' w.heap.size false ∧ Below w.heap.size w w' ∧ w.heap.size < w'.heap.size := by
  refine (new_raw w).mono ?_
  rintro e w' ⟨rfl, rfl⟩
  exact ⟨rfl, heap_alloc_new w _, (Below.refl _ _).alloc (Nat.le_refl _) _, by simp⟩

end Go.Proofs.Ytejgkgnocgplbaa

/- The document's example of sums; copies of bytes; Same at any bytes. -/
namespace Go.Proofs.Ytejgkgnocgplbaa
set_option linter.unusedVariables false
set_option maxRecDepth 100000
set_option linter.unusedSimpArgs false
open Go.RowKit Dg Cr

theorem wf_u32 {x : Int} (h : (Lit.int .u32 x).wf = true) : 0 ≤ x ∧ x < 4294967296 := by
  simp [Lit.wf, IntKind.min, IntKind.max, IntKind.signed, IntKind.bits] at h
  omega
theorem tsum_at (w : World) (b : Nat) (m : Bool) (sv : Value) (l : List Nat) (x : Nat) (hx : x = (crc ones l).toNat) (ht : TbAt w b m) (h : SlAt w sv l) (hf : l ≠ [] → ∀ k, sv.ownBlock = some k → k ≠ b) (hl : l.length ≤ 1000000) (h256 : ∀ x ∈ l, x < 256) :
    Calls Try.prog 33 #[.pointer (some ⟨b, 0, none⟩), sv] w fun e w' => e = .returned (.int .u32 (x : Int)) ∧ TbAt w' b (m || !l.isEmpty) ∧ Kept (fun k => k = b) w w' := by
  rw [hx]; exact tsum_any w b m sv l ht h hf hl h256
theorem tadd_at (w : World) (b : Nat) (m : Bool) (s : Nat) (sv : Value) (l : List Nat) (x : Nat) (hs : s < 4294967296) (hx : x = (crc (BitVec.ofNat 32 s) l).toNat) (ht : TbAt w b m) (h : SlAt w sv l) (hf : l ≠ [] → ∀ k, sv.ownBlock = some k → k ≠ b) (hl : l.length ≤ 1000000) (h256 : ∀ x ∈ l, x < 256) :
    Calls Try.prog 43 #[.pointer (some ⟨b, 0, none⟩), .int .u32 (s : Int), sv] w fun e w' => e = .returned (.int .u32 (x : Int)) ∧ TbAt w' b (m || !l.isEmpty) ∧ Kept (fun k => k = b) w w' := by
  have e : (BitVec.ofNat 32 s).toNat = s := by rw [BitVec.toNat_ofNat]; omega
  have h1 := tadd_any w b m (BitVec.ofNat 32 s) sv l ht h hf hl h256
  unfold u32v at h1
  rw [e] at h1
  rw [hx]; exact h1

/-- "123456789" -/
def nine : List Nat := [49, 50, 51, 52, 53, 54, 55, 56, 57]
theorem crc_nine : (crc ones nine).toNat = 58124007 := by decide +kernel
/-- Bytes of a text, as bytes: the row is marked behind its end. -/
theorem run_marked (w : World) (C : Array Value) (n c : Nat) :
    Sem.run Try.prog (convert 32 32 (.slice (some ⟨w.heap.size, 0, none⟩) n c)) (w.alloc (.cells C 5)) = .ok (.slice (some ⟨w.heap.size, 0, none⟩) n c) (w.alloc (.cells C 5 (C.size, C.size + 1))) := by
  have hsh : (w.alloc (.cells C 5)).shape? w.heap.size = some (5, C.size) := by
    unfold World.shape?
    rw [heap_alloc_new]
  have hfr : (w.alloc (.cells C 5)).freeze ⟨w.heap.size, C.size, none⟩ 1 = w.alloc (.cells C 5 (C.size, C.size + 1)) := by
    have hm : ∀ (a : Array Obj) (x : Obj) (f : Obj → Obj), (a.push x).modify a.size f = a.push (f x) := by
      intro a x f
      apply Array.ext
      · simp
      · intro i h1 h2
        simp only [Array.getElem_modify, Array.getElem_push]
        by_cases h : a.size = i
        · subst h
          simp
        · have hi : i < a.size := by simp at h1; omega
          simp [h, hi]
    unfold World.freeze
    rw [if_neg (by decide)]
    show ({ w.alloc (.cells C 5) with heap := (w.heap.push (.cells C 5)).modify w.heap.size _ } : World) = _
    rw [hm]
    rfl
  simp [convert, run_underlying Try.underlying32, run_underlying Try.underlying5, markStringish, hsh]
  exact hfr
theorem nine_at (w : World) : SlAt (w.alloc (.cells #[.int .u8 49, .int .u8 50, .int .u8 51, .int .u8 52, .int .u8 53, .int .u8 54, .int .u8 55, .int .u8 56, .int .u8 57] 5 (9, 10))) (.slice (some ⟨w.heap.size, 0, none⟩) 9 9) nine := by
  refine ⟨some ⟨w.heap.size, 0, none⟩, 9, rfl, fun j x hx => ⟨w.heap.size, 0, rfl, ?_⟩⟩
  have hj : j < 9 := (List.getElem?_eq_some_iff.1 hx).1
  have hr : j = 0 ∨ j = 1 ∨ j = 2 ∨ j = 3 ∨ j = 4 ∨ j = 5 ∨ j = 6 ∨ j = 7 ∨ j = 8 := by omega
  rcases hr with h | h | h | h | h | h | h | h | h <;> subst h <;> simp [nine] at hx <;> subst hx <;> (simp only [World.cell?, heap_alloc_new]; rfl)

end Go.Proofs.Ytejgkgnocgplbaa

/- The coder of package block in memory: its table and two counts; sum, bytes.Equal, holds. -/
namespace Go.Proofs.Ytejgkgnocgplbaa
set_option linter.unusedVariables false
set_option linter.unusedSimpArgs false
open Go.RowKit Dg Cr

/-- '(*sync/atomic.Int64).Add', '.Load' of a count. -/
theorem aadd_any (a : Addr) (x y : Int) (w : World) (hc : w.cell? a = some (.int .i64 x)) (hz : w.frozen? a = false) (h1 : -1000000 ≤ x) (h2 : x ≤ 1000000) (h3 : -1000000 ≤ y) (h4 : y ≤ 1000000) :
    Calls Try.prog 22 #[.pointer (some a), .int .i64 y] w fun e w' => e = .returned (.int .i64 (x + y)) ∧ w' = w.setCell a (.int .i64 (x + y)) := by
  have hs : (Op.intArith .add .i64 x y).run Try.prog w = .ok (.int .i64 (x + y)) w := by
    have e : IntKind.i64.wrap (x + y) = x + y := Go.IntWalk.i64_in _ (by omega)
    simp [Op.intArith, e]
  have hl := run_call_add (P := Try.prog) Try.func27 (by kernel_rfl) (by kernel_rfl) (by kernel_rfl) .i64 (by kernel_rfl) hc hz hs
  go_enter Try.func22, Try.ntmps22
  go_wp2
  go_ret
  exact ⟨rfl, rfl⟩
/-- A coder: its table, its counts. -/
structure CoIs (w : World) (b t n m : Nat) (made : Bool) : Prop where
  box : w.heap[b]? = some (.cells #[.pointer (some ⟨t, 0, none⟩), .int .i64 (n : Int), .int .i64 (m : Int)] 52 (0, 0))
  tab : TbAt w t made
  ne : t ≠ b
def CoS (w : World) (b base top n m : Nat) : Prop := ∃ t made, CoIs w b t n m made ∧ base ≤ t ∧ t < top ∧ base ≤ b ∧ b < top ∧ top ≤ w.heap.size
theorem CoIs.cell {w : World} {b t n m : Nat} {made : Bool} (h : CoIs w b t n m made) : w.cell? ⟨b, 0, none⟩ = some (.pointer (some ⟨t, 0, none⟩)) ∧ w.cell? ⟨b, 1, none⟩ = some (.int .i64 (n : Int)) ∧ w.cell? ⟨b, 2, none⟩ = some (.int .i64 (m : Int)) := by
  simp [World.cell?, h.box]
theorem CoIs.froz {w : World} {b t n m : Nat} {made : Bool} (h : CoIs w b t n m made) (o : Nat) : w.frozen? ⟨b, o, none⟩ = false := by
  simp [World.frozen?, h.box]
theorem CoIs.kept {w w' : World} {b t n m : Nat} {made : Bool} {F : Nat → Prop} (h : CoIs w b t n m made) (hk : Kept F w w') (h1 : ¬ F b) (h2 : ¬ F t) : CoIs w' b t n m made :=
  ⟨by rw [hk.block b (Array.getElem?_eq_some_iff.1 h.box).1 h1]; exact h.box, h.tab.kept hk h2, h.ne⟩
theorem CoIs.sealed {w : World} {b t n m : Nat} {made : Bool} (h : CoIs w b t n m made) (n' : Nat) : CoIs (w.setCell ⟨b, 1, none⟩ (.int .i64 (n' : Int))) b t n' m made :=
  ⟨heap_setCell_of h.box _, h.tab.kept (Kept.setCell (F := fun k => k = b) _ _ _ rfl) (fun e => h.ne e), h.ne⟩
theorem CoIs.opened {w : World} {b t n m : Nat} {made : Bool} (h : CoIs w b t n m made) (m' : Nat) : CoIs (w.setCell ⟨b, 2, none⟩ (.int .i64 (m' : Int))) b t n m' made :=
  ⟨heap_setCell_of h.box _, h.tab.kept (Kept.setCell (F := fun k => k = b) _ _ _ rfl) (fun e => h.ne e), h.ne⟩
theorem CoS.lt {w : World} {b base top n m : Nat} (h : CoS w b base top n m) : base ≤ b ∧ b < top ∧ top ≤ w.heap.size := by
  obtain ⟨t, made, -, -, -, h1, h2, h3⟩ := h
  exact ⟨h1, h2, h3⟩
theorem CoS.keep {w w' : World} {b base top n m : Nat} {F : Nat → Prop} (h : CoS w b base top n m) (hk : Kept F w w') (hF : ∀ k, InCo base top k → ¬ F k) : CoS w' b base top n m := by
  obtain ⟨t, made, h0, h1, h2, h3, h4, h5⟩ := h
  exact ⟨t, made, h0.kept hk (hF b ⟨h3, h4⟩) (hF t ⟨h1, h2⟩), h1, h2, h3, h4, Nat.le_trans h5 hk.size⟩
set_option maxHeartbeats 1000000 in
theorem snew_any (w : World) : Calls Try.prog 7 #[] w fun e w' => ∃ b top, e = .returned (.pointer (some ⟨b, 0, none⟩)) ∧ CoS w' b w.heap.size top 0 0 ∧ Below w.heap.size w w' := by
  go_enter Try.func7, Try.ntmps7
  go_wp2_with fail
  refine (tnew_any w).mono ?_
  rintro e w1 ⟨rfl, ht1, hb1, hs1⟩
  have HT1 := hid_of ht1
  have HB1 := hid_of hb1
  clear ht1 hb1
  go_wp2_with fail
  go_ret
  refine ⟨w1.heap.size, w1.heap.size + 1, rfl, ⟨w.heap.size, false, ⟨heap_alloc_new w1 _, HT1.out.kept (Kept.alloc (fun _ => False) _ _) (fun h => h), by omega⟩, Nat.le_refl _, by omega, by omega, by omega, by simp⟩, HB1.out.alloc (by omega) _⟩
theorem CoIs.lt {w : World} {b t n m : Nat} {made : Bool} (h : CoIs w b t n m made) : b < w.heap.size := (Array.getElem?_eq_some_iff.1 h.box).1
/-- A sum by the coder's table. -/
theorem csum_any (w : World) (b t n m base top : Nat) (made : Bool) (h : CoIs w b t n m made) (ht1 : base ≤ t) (ht2 : t < top) (hb1 : base ≤ b) (hb2 : b < top) (htop : top ≤ w.heap.size) (v : Value) (l : List Nat) (X : Nat) (hX : X = sumN l) (hs : SlAt w v l) (hf : l ≠ [] → ∀ k, v.ownBlock = some k → ¬ InCo base top k) (hl : l.length ≤ 1000000) (h256 : ∀ x ∈ l, x < 256) :
    Calls Try.prog 33 #[.pointer (some ⟨t, 0, none⟩), v] w fun e w' => e = .returned (.int .u32 (X : Int)) ∧ (∃ made', CoIs w' b t n m made') ∧ Kept (InCo base top) w w' := by
  refine (tsum_at w t made v l X hX h.tab hs (fun hne k hk e => hf hne k hk (by subst e; exact ⟨ht1, ht2⟩)) hl h256).mono ?_
  rintro e w' ⟨rfl, ht, hk⟩
  refine ⟨rfl, ⟨_, ⟨?_, ht, h.ne⟩⟩, hk.mono (fun i _ hi => by subst hi; exact ⟨ht1, ht2⟩)⟩
  rw [hk.block b h.lt (fun e => h.ne e.symm)]
  exact h.box
/-- The four bytes of a sum, as the walk spells them. -/
theorem four_own (w : World) (B X : Nat) (hX : X < 4294967296) (hB : B ≤ w.heap.size) : (w.alloc (.cells #[.int .u8 ((X : Int) / 16777216), .int .u8 ((X : Int) / 65536 % 256), .int .u8 ((X : Int) / 256 % 256), .int .u8 ((X : Int) % 256)] 5)).ownsRow B 5 1 (.slice (some ⟨w.heap.size, 0, none⟩) 4 4) 4 (u8s (bytes4 X)) := by
  refine own_new w B _ 4 (bytes4 X) ?_ rfl (by decide) hB
  have h0 : (X : Int) / 16777216 = ((X / 16777216 % 256 : Nat) : Int) := by omega
  have h1 : (X : Int) / 65536 % 256 = ((X / 65536 % 256 : Nat) : Int) := by omega
  have h2 : (X : Int) / 256 % 256 = ((X / 256 % 256 : Nat) : Int) := by omega
  have h3 : (X : Int) % 256 = ((X % 256 : Nat) : Int) := by omega
  rw [h0, h1, h2, h3]
  rfl
set_option maxRecDepth 100000 in
set_option maxHeartbeats 4000000 in
/-- 'c.sum(b)'. -/
theorem ssum_any (w : World) (b base top n m : Nat) (h : CoS w b base top n m) (v : Value) (l : List Nat) (X : Nat) (hX : X = sumN l) (hs : SlAt w v l) (hf : l ≠ [] → ∀ k, v.ownBlock = some k → ¬ InCo base top k) (hl : l.length ≤ 1000000) (h256 : ∀ x ∈ l, x < 256) :
    Calls Try.prog 25 #[.pointer (some ⟨b, 0, none⟩), v] w fun e w' => ∃ g, e = .returned (.slice (some ⟨g, 0, none⟩) 4 4) ∧ w'.ownsRow w.heap.size 5 1 (.slice (some ⟨g, 0, none⟩) 4 4) 4 (u8s (bytes4 X)) ∧ CoS w' b base top n m ∧ Kept (InCo base top) w w' := by
  obtain ⟨t, made, h0, h1, h2, h3, h4, h5⟩ := h
  obtain ⟨c0, c1, c2⟩ := h0.cell
  have hXl : X < 4294967296 := by rw [hX]; exact sumN_lt _
  have HC := hid_of (csum_any w b t n m base top made h0 h1 h2 h3 h4 h5 v l X hX hs hf hl h256)
  have HP : Hid (base ≤ t ∧ t < top ∧ base ≤ b ∧ b < top ∧ top ≤ w.heap.size) := ⟨h1, h2, h3, h4, h5⟩
  clear h0 hX hs hf h256 h1 h2 h3 h4 h5
  go_enter Try.func25, Try.ntmps25
  go_wp2_with fail
  refine HC.out.mono ?_
  rintro e w1 ⟨rfl, ⟨made1, hc1⟩, hk1⟩
  have HC1 := hid_of hc1
  have HK1 := hid_of hk1
  clear hc1 hk1 HC
  go_wp2_with fail
  go_ret
  have hka := Kept.alloc (fun _ => False) w1 (.cells #[.int .u8 ((X : Int) / 16777216), .int .u8 ((X : Int) / 65536 % 256), .int .u8 ((X : Int) / 256 % 256), .int .u8 ((X : Int) % 256)] 5)
  exact ⟨_, rfl, four_own w1 _ X hXl HK1.out.size, ⟨t, made1, HC1.out.kept hka (fun h => h) (fun h => h), HP.out.1, HP.out.2.1, HP.out.2.2.1, HP.out.2.2.2.1, Nat.le_trans HP.out.2.2.2.2 (Nat.le_trans HK1.out.size hka.size)⟩, HK1.out.trans (hka.mono (fun _ _ h => h.elim))⟩

/-- The string of some bytes. -/
def strB (l : List Nat) : ByteArray := strOfNums (l.map fun n : Nat => (n : Int))
theorem conv_bytes (w : World) (a : Option Addr) (n c : Nat) (l : List Nat) (hn : l.length = n) (h0 : 0 < n) (h : SlAt w (.slice a n c) l) :
    (convert 32 9 (.slice a n c)).run Try.prog w = .ok (.string (strB l)) w := by
  subst hn
  obtain ⟨ao, cp, hv, hc⟩ := h
  cases hv
  obtain ⟨b, off, rfl, -⟩ := hc 0 (l[0]'h0) (by rw [List.getElem?_eq_getElem])
  unfold strB
  refine run_convert_bytes_arg (P := Try.prog) w 32 5 Try.underlying32 Try.underlying5 b off _ _ (l.map fun n : Nat => (n : Int)) (List.length_map ..) (fun i hi => ?_) 9 Try.underlying9
  obtain ⟨b', off', e, hcell⟩ := hc i (l[i]'hi) (by rw [List.getElem?_eq_getElem])
  cases e
  rw [hcell]
  simp [List.getD, List.getElem?_eq_getElem hi]
theorem strB_eq {l1 l2 : List Nat} (h1 : ∀ x ∈ l1, x < 256) (h2 : ∀ x ∈ l2, x < 256) : (strB l1).data.toList = (strB l2).data.toList ↔ l1 = l2 := by
  refine ⟨fun h => ?_, fun h => by rw [h]⟩
  unfold strB at h
  rw [strOfNums_data, strOfNums_data, List.map_map, List.map_map] at h
  have key : ∀ l : List Nat, (∀ x ∈ l, x < 256) → (l.map ((fun n : Int => UInt8.ofNat n.toNat) ∘ fun n : Nat => (n : Int))).map UInt8.toNat = l := by
    intro l hl
    rw [List.map_map]
    conv => rhs; rw [← List.map_id l]
    refine List.map_congr_left (fun x hx => ?_)
    have := hl x hx
    simp [UInt8.toNat_ofNat]
    omega
  have h3 := congrArg (List.map UInt8.toNat) h
  rwa [key l1 h1, key l2 h2] at h3
set_option maxHeartbeats 1000000 in
/-- 'bytes.Equal' of rows that are not empty. -/
theorem bequal_any (w : World) (a1 a2 : Option Addr) (n1 n2 c1 c2 : Nat) (l1 l2 : List Nat) (e1 : l1.length = n1) (e2 : l2.length = n2) (p1 : 0 < n1) (p2 : 0 < n2) (h1 : SlAt w (.slice a1 n1 c1) l1) (h2 : SlAt w (.slice a2 n2 c2) l2) (b1 : ∀ x ∈ l1, x < 256) (b2 : ∀ x ∈ l2, x < 256) (q : Bool) (hq : q = decide (l1 = l2)) :
    Calls Try.prog 26 #[.slice a1 n1 c1, .slice a2 n2 c2] w fun e w' => e = .returned (.bool q) ∧ w = w' := by
  have k1 := conv_bytes w a1 n1 c1 l1 e1 p1 h1
  have k2 := conv_bytes w a2 n2 c2 l2 e2 p2 h2
  have HQ : Hid (((strB l1).toList == (strB l2).toList) = q) := by
    show _ = _
    rw [hq, ByteArray.toList_eq, ByteArray.toList_eq]
    by_cases h : l1 = l2
    · rw [decide_eq_true h]; exact beq_iff_eq.2 ((strB_eq b1 b2).2 h)
    · rw [decide_eq_false h]; exact beq_eq_false_iff_ne.2 (fun e => h ((strB_eq b1 b2).1 e))
  clear h1 h2 b1 b2 hq
  generalize strB l1 = s1 at *
  generalize strB l2 = s2 at *
  go_enter Try.func26, Try.ntmps26
  go_wp2
  go_ret
  exact ⟨by rw [← HQ.out]; rfl, rfl⟩

set_option maxRecDepth 100000 in
set_option maxHeartbeats 4000000 in
/-- 'c.holds(sector)'. -/
theorem swhole_any (w : World) (b base top n m : Nat) (a : Option Addr) (cap : Nat) (l : List Nat) (h : CoS w b base top n m) (hs : Bs w a cap l) (hf : l ≠ [] → ∀ y, a = some y → ¬ InCo base top y.block) (hl : l.length ≤ 100000) (h256 : ∀ x ∈ l, x < 256) (q : Bool) (hq : q = decide (wholeP l)) :
    Calls Try.prog 21 #[.pointer (some ⟨b, 0, none⟩), .slice a l.length cap] w fun e w' => e = .returned (.bool q) ∧ CoS w' b base top n m ∧ Kept (InCo base top) w w' := by
  by_cases h128 : l.length = 128
  · have hb : ((l.length : Int) == 128) = true := beq_iff_eq.2 (by omega)
    have hle := hs.le
    have htop : top ≤ w.heap.size := h.lt.2.2
    obtain ⟨T, hT⟩ : ∃ T, T = l.take 124 := ⟨_, rfl⟩
    obtain ⟨D, hD⟩ : ∃ D, D = l.drop 124 := ⟨_, rfl⟩
    obtain ⟨X, hX⟩ : ∃ X, X = sumN T := ⟨_, rfl⟩
    have hTl : T.length = 124 := by rw [hT, List.length_take]; omega
    have hDl : D.length = 4 := by rw [hD, List.length_drop]; omega
    have HQ : Hid (q = decide (bytes4 X = D)) := by
      show _ = _
      rw [hq]
      by_cases hw : wholeP l
      · rw [decide_eq_true hw, decide_eq_true]
        rw [hX, hT, hD]; exact hw.2.symm
      · rw [decide_eq_false hw, decide_eq_false]
        intro e
        exact hw ⟨h128, by rw [← hT, ← hD, ← hX]; exact e.symm⟩
    have HT256 : Hid (∀ x ∈ T, x < 256) := by rw [hT]; exact fun x hx => h256 x (List.mem_of_mem_take hx)
    have HD256 : Hid (∀ x ∈ D, x < 256) := by rw [hD]; exact fun x hx => h256 x (List.mem_of_mem_drop hx)
    obtain ⟨a', ha'⟩ : ∃ a', a' = lowA a cap 124 := ⟨_, rfl⟩
    obtain ⟨cap', hcap'⟩ : ∃ cap', cap' = cap - 124 := ⟨_, rfl⟩
    have hsl : ∀ W : World, (Instr.sliceAt 32 (.slice a l.length cap) none (some (.int .i64 124)) none).run Try.prog W = .ok (.slice a 124 cap) W := fun W => slice_hi a l.length cap 124 (by omega) W
    have hsl2 : ∀ W : World, (Instr.sliceAt 32 (.slice a l.length cap) (some (.int .i64 124)) none none).run Try.prog W = .ok (.slice a' 4 cap') W := fun W => by
      have e := slice_lo a l.length cap 124 (by omega) W
      rw [ha', hcap', show 4 = l.length - 124 by omega]
      exact e
    have HSD : Hid (∀ W, Bs W a cap l → SlAt W (.slice a' 4 cap') D) := fun W hW => by
      have h1 := (hW.lo 124 (by omega)).at_
      rw [List.length_drop, show l.length - 124 = 4 by omega] at h1
      rw [ha', hcap', hD]; exact h1
    have HST : Hid (∀ W, Bs W a cap l → SlAt W (.slice a 124 cap) T) := fun W hW => by rw [hT]; exact hW.hi 124 (by omega)
    have HF : Hid (∀ y, a = some y → ¬ InCo base top y.block) := hf (fun e => by rw [e] at h128; simp at h128)
    have H := hid_of h
    have HS := hid_of hs
    have HX := hid_of hX
    have HDL := hid_of hDl
    have HTL := hid_of hTl
    clear h hs hf h256 hX hq hT hD ha' hcap' hDl hTl h128 hle
    have HCS : Hid (Calls Try.prog 25 #[.pointer (some ⟨b, 0, none⟩), .slice a 124 cap] w.drew fun e w' => ∃ g, e = .returned (.slice (some ⟨g, 0, none⟩) 4 4) ∧ SlAt w' (.slice (some ⟨g, 0, none⟩) 4 4) (bytes4 X) ∧ SlAt w' (.slice a' 4 cap') D ∧ CoS w' b base top n m ∧ Kept (InCo base top) w w') := by
      have hd : Kept (fun _ => False) w w.drew := (Kept.refl _ _).drew
      refine (ssum_any w.drew b base top n m (H.out.keep hd (fun _ _ h => h)) _ T X HX.out ((HST.out w HS.out).kept hd (fun _ _ h => h)) (fun _ => far_block HF.out) (by rw [HTL.out]; decide) HT256.out).mono ?_
      rintro e w4 ⟨g4, rfl, h4, hc4, hk4⟩
      have hk5 : Kept (InCo base top) w w4 := (hd.mono (fun _ _ h => h.elim)).trans hk4
      exact ⟨g4, rfl, SlAt.of_owns h4, HSD.out w4 (HS.out.co hk5 (fun _ => HF.out)), hc4, hk5⟩
    clear H HS HX HSD HST HF HT256
    go_enter Try.func21, Try.ntmps21
    go_upto_region 1 with fail
    go_region_with (first
      | (go_at_call 25; refine HCS.out.mono ?_; rintro e w4 ⟨g4, rfl, h4, hd4, hc4, hk4⟩; have H4 := hid_of h4; have HD4 := hid_of hd4; have HC4 := hid_of hc4; have HK4 := hid_of hk4; clear h4 hd4 hc4 hk4)
      | (go_at_call 26; refine (bequal_any _ _ _ 4 4 4 _ (bytes4 X) D (length_bytes4 X) HDL.out (by decide) (by decide) H4.out HD4.out (bytes4_lt X) HD256.out q HQ.out).mono ?_; rintro e w5 ⟨rfl, rfl⟩))
    all_goals go_wp2_with fail
    all_goals go_ret
    all_goals exact ⟨rfl, HC4.out, HK4.out⟩
  · have hb : ((l.length : Int) == 128) = false := beq_eq_false_iff_ne.2 (by omega)
    have hq' : q = false := by rw [hq]; exact decide_eq_false (fun h => h128 h.1)
    have H := hid_of h
    subst hq'
    clear h hs hf h256 hq h128
    go_enter Try.func21, Try.ntmps21
    go_upto_region 1 with fail
    go_quiet (fail)
    go_wp2_with fail
    go_ret
    exact ⟨rfl, H.out.keep (F := fun _ => False) ⟨rfl, rfl, rfl, Nat.le_refl _, fun _ _ _ => rfl⟩ (fun _ _ h => h), ⟨rfl, rfl, rfl, Nat.le_refl _, fun _ _ _ => rfl⟩⟩

end Go.Proofs.Ytejgkgnocgplbaa

/- No more than 64 samples are decoded. -/
namespace Go.Proofs.Ytejgkgnocgplbaa
set_option linter.unusedVariables false
set_option linter.unusedSimpArgs false
open Go.RowKit Dg

theorem rest_most {x l : List Int} (h : (restOut x l).2 = 0) : (restOut x l).1.length ≤ 64 := by
  unfold restOut at h ⊢
  split at h
  · cases h
  · rename_i h1
    rw [if_neg h1]
    split at h
    · rename_i h2
      rw [if_pos h2]
      split at h
      · cases h
      · rename_i y hy
        split at h
        · cases h
        · rename_i h3
          rw [if_neg h3]
          show y.length ≤ 64
          omega
    · cases h
theorem lrest_most {x l c : List Int} (h : (lrestOut x l c).2 = 0) : (lrestOut x l c).1.length ≤ 64 := by
  unfold lrestOut at h ⊢
  split at h
  · cases h
  · rename_i h1
    rw [if_neg h1]
    split at h
    · rename_i h2
      rw [if_pos h2]
      split at h
      · cases h
      · rename_i y hy
        split at h
        · cases h
        · rename_i h3
          rw [if_neg h3]
          show y.length ≤ 64
          omega
    · cases h
theorem decD_most {ds : List Bool} {y : List Int} (h : decD ds = some y) : y.length ≤ 64 := by
  unfold decD at h
  obtain ⟨r1, -, h⟩ := Option.bind_eq_some_iff.1 h
  obtain ⟨r2, -, h⟩ := Option.bind_eq_some_iff.1 h
  split at h
  · cases h
  rename_i hg
  obtain ⟨q, hq, h⟩ := Option.bind_eq_some_iff.1 h
  obtain ⟨b, hb, h⟩ := Option.bind_eq_some_iff.1 h
  split at h
  case isFalse => cases h
  cases h
  have hql := sampsT_len _ _ _ hq
  unfold bodyT at hb
  by_cases h0 : r1.1 = 0
  · rw [if_pos h0] at hb; cases hb; simp; omega
  rw [if_neg h0] at hb
  by_cases h1 : r1.1 = 1
  · rw [if_pos h1] at hb; cases hb; rw [hql]; omega
  rw [if_neg h1] at hb
  by_cases h6 : r1.1 ≤ 6
  · rw [if_pos h6] at hb
    obtain ⟨r, -, g2⟩ := Option.bind_eq_some_iff.1 hb
    split at g2
    · rename_i hz; cases g2; exact rest_most hz
    · cases g2
  · rw [if_neg h6] at hb
    obtain ⟨c, -, g⟩ := Option.bind_eq_some_iff.1 hb
    obtain ⟨r, -, g2⟩ := Option.bind_eq_some_iff.1 g
    split at g2
    · rename_i hz; cases g2; exact lrest_most hz
    · cases g2

theorem decOut_two (l : List Nat) : (∃ y, decOut 2 l = (y, 0) ∧ y.length ≤ 1000000) ∨ decOut 2 l = ([], 2) := by
  unfold decOut
  cases h : decD (unpack l) with
  | none => exact .inr rfl
  | some x =>
    refine .inl ⟨x, rfl, ?_⟩
    have := decD_most h
    omega

end Go.Proofs.Ytejgkgnocgplbaa

/- Open. -/
namespace Go.Proofs.Ytejgkgnocgplbaa
set_option linter.unusedVariables false
set_option linter.unusedSimpArgs false
open Go.RowKit Dg Cr

/-- One more was opened; one more was sealed. -/
theorem CoS.open1 {w : World} {b base top n m : Nat} (h : CoS w b base top n m) (hm : m ≤ 1000000) :
    Calls Try.prog 22 #[.pointer (some ⟨b, 2, none⟩), .int .i64 1] w fun e w' => (∃ v, e = .returned v) ∧ CoS w' b base top n (m + 1) ∧ Kept (InCo base top) w w' := by
  obtain ⟨t, made, h0, h1, h2, h3, h4, h5⟩ := h
  refine (aadd_any ⟨b, 2, none⟩ (m : Int) 1 w h0.cell.2.2 (h0.froz 2) (by omega) (by omega) (by decide) (by decide)).mono ?_
  rintro e w' ⟨rfl, rfl⟩
  exact ⟨⟨_, rfl⟩, ⟨t, made, h0.opened (m + 1), h1, h2, h3, h4, by simpa [World.setCell] using h5⟩, Kept.setCell _ _ _ ⟨h3, h4⟩⟩
theorem CoS.seal1 {w : World} {b base top n m : Nat} (h : CoS w b base top n m) (hn : n ≤ 1000000) :
    Calls Try.prog 22 #[.pointer (some ⟨b, 1, none⟩), .int .i64 1] w fun e w' => (∃ v, e = .returned v) ∧ CoS w' b base top (n + 1) m ∧ Kept (InCo base top) w w' := by
  obtain ⟨t, made, h0, h1, h2, h3, h4, h5⟩ := h
  refine (aadd_any ⟨b, 1, none⟩ (n : Int) 1 w h0.cell.2.1 (h0.froz 1) (by omega) (by omega) (by decide) (by decide)).mono ?_
  rintro e w' ⟨rfl, rfl⟩
  exact ⟨⟨_, rfl⟩, ⟨t, made, h0.sealed (n + 1), h1, h2, h3, h4, by simpa [World.setCell] using h5⟩, Kept.setCell _ _ _ ⟨h3, h4⟩⟩

end Go.Proofs.Ytejgkgnocgplbaa

/- bytes.Clone, Unseal. -/
namespace Go.Proofs.Ytejgkgnocgplbaa
set_option linter.unusedVariables false
set_option linter.unusedSimpArgs false
open Go.RowKit Dg Cr

theorem Below.kept0 {w w' : World} (hb : Below w.heap.size w w') : Kept (fun i => w.heap.size ≤ i) w w' := ⟨hb.os, hb.tape, hb.output, hb.size, fun i _ hf => hb.block i (by omega)⟩

set_option maxHeartbeats 1000000 in
/-- 'bytes.Clone' of a row that is not empty. -/
theorem bclone_any (w : World) (a : Option Addr) (n c : Nat) (l : List Nat) (hn : l.length = n) (h0 : 0 < n) (hl : n ≤ 1000000) (hc : n ≤ c) (h : SlAt w (.slice a n c) l) :
    Calls Try.prog 23 #[.slice a n c] w fun e w' => ∃ v, e = .returned v ∧ OwnBytes w' w.heap.size v l ∧ Below w.heap.size w w' := by
  subst hn
  obtain ⟨y, rfl⟩ : ∃ y, a = some y := by
    obtain ⟨ao, cp, hv, hcl⟩ := h
    cases hv
    obtain ⟨b, off, rfl, -⟩ := hcl 0 (l[0]'(by omega)) (by rw [List.getElem?_eq_getElem])
    exact ⟨_, rfl⟩
  have HBS : Hid (Bs w (some y) c l) := ⟨h, hc, fun e => by cases e⟩
  have qT : ∀ (w : World) (a : Option Addr) (n c n' c' : Nat), (binOp .eql 32 (.slice a n c) (.slice none n' c')).run Try.prog w = .ok (.bool a.isNone) w := fun w a n c n' c' => Lib.run_eql_slice_nil w _ _ a n c n' c' Try.underlying32
  have HB0 : Hid (Below w.heap.size w (w.alloc (.cells #[] 5))) := (Below.refl _ _).alloc (Nat.le_refl _) _
  have HO : Hid (OwnBytes (w.alloc (.cells #[] 5)) w.heap.size (.slice (some ⟨w.heap.size, 0, none⟩) 0 0) []) := own_new w w.heap.size #[] 0 [] rfl rfl (by decide) (Nat.le_refl _)
  clear h
  go_enter Try.func23, Try.ntmps23
  go_wp2_with (at_builtin; go_must (refine wpList_append_bytes _ rfl (.tmp 5) (.tmp 6) rfl w.heap.size _ [] rfl HO.out (some y) c l rfl (HBS.out.below HB0.out) (by simp; omega) HB0.out.size ?_))
  intro v2 w2 ho2 hk2 hv2
  have HO2 : Hid (OwnBytes w2 w.heap.size v2 l) := ho2.out
  have HB2 : Hid (Below w.heap.size w w2) := hk2.out.below_of HB0.out (fun k hf => by simp [Value.ownBlock] at hf; omega) HB0.out.size
  clear ho2 hk2 hv2
  go_wp2_with fail
  go_ret
  exact ⟨_, rfl, HO2.out, HB2.out⟩

set_option maxRecDepth 100000 in
set_option maxHeartbeats 4000000 in
theorem sunseal_any : UnsealC CoS := by
  intro w b base top n m a cap l R hco hb hf hl hm h256 hR
  have HCO := hid_of hco
  have HB := hid_of hb
  have HF := hid_of hf
  have H256 := hid_of h256
  have htop : top ≤ w.heap.size := hco.lt.2.2
  unfold unsealOut at hR
  by_cases hw : wholeP l
  · rw [if_pos hw] at hR
    subst hR
    have HW : Hid (true = decide (wholeP l)) := (decide_eq_true hw).symm
    have h128 : 128 ≤ l.length := by rw [hw.1]; exact Nat.le_refl _
    have hle := hb.le
    obtain ⟨T, hT⟩ : ∃ T, T = l.take 124 := ⟨_, rfl⟩
    have HTL : Hid (T.length = 124) := by show _ = _; rw [hT]; simp; omega
    have HST : Hid (∀ W, Bs W a cap l → SlAt W (.slice a 124 cap) T) := fun W hW => by rw [hT]; exact hW.hi 124 (by omega)
    rw [← hT]
    have hsl : ∀ W : World, (Instr.sliceAt 32 (.slice a l.length cap) none (some (.int .i64 124)) none).run Try.prog W = .ok (.slice a 124 cap) W := fun W => slice_hi a l.length cap 124 (by omega) W
    clear hco hb hf h256 hw hT
    go_enter Try.func14, Try.ntmps14
    go_wp2_with fail
    refine (swhole_any w b base top n m a cap l HCO.out HB.out HF.out hl H256.out true HW.out).mono ?_
    rintro e w1 ⟨rfl, hco1, hk1⟩
    have HCO1 := hid_of hco1
    have HK1 := hid_of hk1
    clear hco1 hk1
    go_wp2_with fail
    refine (HCO1.out.open1 (by omega)).mono ?_
    rintro e w4 ⟨⟨v4, rfl⟩, hco4, hk4⟩
    have HCO4 := hid_of hco4
    have HK4 : Hid (Kept (InCo base top) w w4) := HK1.out.trans hk4
    have hs4 : w.heap.size ≤ w4.heap.size := HK4.out.size
    have HC := hid_of (bclone_any w4 a 124 cap T HTL.out (by decide) (by decide) (by omega) (HST.out w4 (HB.out.co HK4.out HF.out)))
    clear hco4 hk4 HCO1 HK1
    go_wp2_with fail
    refine HC.out.mono ?_
    rintro e w5 ⟨v5, rfl, h5, hb5⟩
    have HO5 : Hid (OwnBytes w5 w.heap.size v5 T) := ownsRow_base h5 hs4
    have HCO5 : Hid (CoS w5 b base top n (m + 1)) := HCO4.out.keep (Below.kept0 hb5) (fun i hi hf => by have := hi.2; omega)
    have HK5 : Hid (Kept (InCo base top) w w5) := HK4.out.trans' (Below.kept0 hb5) (fun i hi hf => by omega)
    clear h5 hb5 HC
    go_wp2_with fail
    go_ret2
    exact ⟨_, rfl, HO5.out, HCO5.out, HK5.out⟩
  · rw [if_neg hw] at hR
    subst hR
    have HW : Hid (false = decide (wholeP l)) := (decide_eq_false hw).symm
    clear hco hb hf h256 hw
    go_enter Try.func14, Try.ntmps14
    go_wp2_with fail
    refine (swhole_any w b base top n m a cap l HCO.out HB.out HF.out hl H256.out false HW.out).mono ?_
    rintro e w1 ⟨rfl, hco1, hk1⟩
    have HCO1 := hid_of hco1
    have HK1 := hid_of hk1
    clear hco1 hk1
    go_wp2_with fail
    go_ret2
    exact ⟨_, rfl, OwnBytes.nil _ _, HCO1.out, HK1.out⟩

end Go.Proofs.Ytejgkgnocgplbaa
