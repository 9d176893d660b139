/- The table's calls: Once, Add, Sum, Made, New. -/
import Derived.Test.YthcjgcfmodkiiaaCrc3
namespace Go.Proofs.Ythcjgcfmodkiiaa
set_option linter.unusedVariables false
set_option linter.unusedSimpArgs false
open Go.RowKit Dg Cr

set_option maxRecDepth 100000 in
set_option maxHeartbeats 1600000 in
theorem doSlow_any (w : World) (b : Nat) (h : TbIs w b 0 0 0 0) :
    Calls Try.prog 28 #[.pointer (some ⟨b, 0, none⟩), .func (.func 26) #[.pointer (some ⟨b, 0, none⟩)] #[]] w fun e w' => e = .returned (.tuple #[]) ∧ TbIs w' b 1 0 1 256 ∧ Kept (fun k => k = b) w w' := by
  have HT0 : Hid (TbIs w b 0 0 0 0) := h
  clear h
  have hnot : ∀ (x : Bool) (w : World), (Op.unary .not (.bool x)).run Try.prog w = .ok (.bool (!x)) w := fun _ _ => rfl
  go_enter_defers Try.func28, Try.ntmps28
  go_wp2_with (first
    | (go_at_call 31; refine (lock_tb _ _ _ _ _ HT0.out).mono ?_; rintro e w1 ⟨rfl, ht1, hk1⟩; have HT1 : Hid (TbIs w1 b 0 1 0 0) := ht1; have HK1 : Hid (Kept (fun k => k = b) w w1) := hk1; clear ht1 hk1)
    | (go_at_call 27; refine (load_tb _ _ _ _ _ _ HT1.out).mono ?_; rintro e w2 ⟨rfl, rfl⟩)
    | (go_at_call 26; refine (fill_any _ _ _ _ HT1.out).mono ?_; rintro e w2 ⟨rfl, ht2, hk2⟩; have HT2 : Hid (TbIs w2 b 0 1 1 256) := ht2; have HK2 : Hid (Kept (fun k => k = b) w w2) := HK1.out.trans hk2; clear ht2 hk2))
  go_wp2
  refine leaves_cons (f := 29) (args := #[.pointer (some ⟨b, 0, none⟩), .bool true]) (by simp) (by simp [go_sem]) ?_
  refine (store_deferred ⟨b, 0, none⟩ (.int .u32 0) .returning _ (by rw [HT2.out.cell]; rfl) (HT2.out.froz _)).mono ?_
  rintro e u' w3 ⟨rfl, rfl, rfl⟩
  have HT3 : TbIs (w2.drew.setCell ⟨b, 0, none⟩ (.int .u32 1)) b 1 1 1 256 := HT2.out.drew.set _ _ rfl
  have HK3 : Kept (fun k => k = b) w (w2.drew.setCell ⟨b, 0, none⟩ (.int .u32 1)) := (HK2.out.drew).trans (Kept.setCell _ _ _ rfl)
  refine leaves_cons (f := 32) (args := #[.pointer (some ⟨b, 1, none⟩)]) (by simp [settle]) (by simp [go_sem]) ?_
  refine (unlock_deferred ⟨b, 1, none⟩ _ _ (by rw [HT3.cell]; rfl) (HT3.froz _)).mono ?_
  rintro e u' w4 ⟨rfl, rfl, rfl⟩
  have HT4 : TbIs ((w2.drew.setCell ⟨b, 0, none⟩ (.int .u32 1)).setCell ⟨b, 1, none⟩ (.int .i32 0)) b 1 0 1 256 := HT3.set _ _ rfl
  have HK4 : Kept (fun k => k = b) w ((w2.drew.setCell ⟨b, 0, none⟩ (.int .u32 1)).setCell ⟨b, 1, none⟩ (.int .i32 0)) := HK3.trans (Kept.setCell _ _ _ rfl)
  simp [Leaves, settle, results, Try.results28]
  exact ⟨HT4, HK4⟩

/-- A table, made or not. -/
def TbAt (w : World) (b : Nat) (made : Bool) : Prop := if made then TbIs w b 1 0 1 256 else TbIs w b 0 0 0 0
theorem TbAt.kept {w w' : World} {b : Nat} {m : Bool} {F : Nat → Prop} (h : TbAt w b m) (hk : Kept F w w') (hF : ¬ F b) : TbAt w' b m := by
  unfold TbAt at h ⊢
  cases m
  · exact TbIs.kept h hk hF
  · exact TbIs.kept h hk hF
theorem TbAt.lt {w : World} {b : Nat} {m : Bool} (h : TbAt w b m) : b < w.heap.size := by
  unfold TbAt at h
  cases m
  · exact TbIs.lt h
  · exact TbIs.lt h
theorem TbAt.below {w w' : World} {b B : Nat} {m : Bool} (h : TbAt w b m) (hb : Below B w w') (hB : b < B) : TbAt w' b m := by
  have e : w'.heap[b]? = w.heap[b]? := hb.block b hB
  unfold TbAt TbIs at h ⊢
  cases m
  · simp only [Bool.false_eq_true, if_false] at h ⊢; rw [e]; exact h
  · simp only [if_true] at h ⊢; rw [e]; exact h

set_option maxHeartbeats 1000000 in
theorem do_first (w : World) (b : Nat) (h : TbIs w b 0 0 0 0) :
    Calls Try.prog 25 #[.pointer (some ⟨b, 0, none⟩), .func (.func 26) #[.pointer (some ⟨b, 0, none⟩)] #[]] w fun e w' => e = .returned (.tuple #[]) ∧ TbIs w' b 1 0 1 256 ∧ Kept (fun k => k = b) w w' := by
  have HT0 : Hid (TbIs w b 0 0 0 0) := h
  clear h
  have hnot : ∀ (x : Bool) (w : World), (Op.unary .not (.bool x)).run Try.prog w = .ok (.bool (!x)) w := fun _ _ => rfl
  go_enter Try.func25, Try.ntmps25
  go_wp2_with (first
    | (go_at_call 27; refine (load_tb _ _ _ _ _ _ HT0.out).mono ?_; rintro e w2 ⟨rfl, rfl⟩)
    | (go_at_call 28; refine (doSlow_any _ _ HT0.out).mono ?_; rintro e w2 ⟨rfl, ht2, hk2⟩; have HT2 : Hid (TbIs w2 b 1 0 1 256) := ht2; have HK2 : Hid (Kept (fun k => k = b) w w2) := hk2; clear ht2 hk2))
  go_end0
  exact ⟨rfl, HT2.out, HK2.out⟩

set_option maxHeartbeats 1000000 in
theorem do_done (w : World) (b : Nat) (fv : Value) (h : TbIs w b 1 0 1 256) :
    Calls Try.prog 25 #[.pointer (some ⟨b, 0, none⟩), fv] w fun e w' => e = .returned (.tuple #[]) ∧ w = w' := by
  have HT0 : Hid (TbIs w b 1 0 1 256) := h
  clear h
  have hnot : ∀ (x : Bool) (w : World), (Op.unary .not (.bool x)).run Try.prog w = .ok (.bool (!x)) w := fun _ _ => rfl
  go_enter Try.func25, Try.ntmps25
  go_wp2_with (first
    | (go_at_call 27; refine (load_tb _ _ _ _ _ _ HT0.out).mono ?_; rintro e w2 ⟨rfl, rfl⟩))
  go_end0
  exact ⟨rfl, rfl⟩

theorem do_any (w : World) (b : Nat) (m : Bool) (h : TbAt w b m) :
    Calls Try.prog 25 #[.pointer (some ⟨b, 0, none⟩), .func (.func 26) #[.pointer (some ⟨b, 0, none⟩)] #[]] w fun e w' => e = .returned (.tuple #[]) ∧ TbIs w' b 1 0 1 256 ∧ Kept (fun k => k = b) w w' := by
  cases m
  · exact do_first w b h
  · have h' : TbIs w b 1 0 1 256 := h
    refine (do_done w b _ h').mono ?_
    rintro e w' ⟨rfl, rfl⟩
    exact ⟨rfl, h', Kept.refl _ _⟩

theorem add_row (v : BitVec 32) (x c : Nat) (hx : x = v.toNat) (hc : c < 256) : bits BinOp.xor IntKind.u8 ((x : Int) / 16777216) (c : Int) = ((x / 16777216 ^^^ c : Nat) : Int) := by
  have hlt := v.isLt
  have e : (x : Int) / 16777216 = ((x / 16777216 : Nat) : Int) := by omega
  rw [e, u8_xor_nat _ _ (by omega) hc]
theorem row_lt (v : BitVec 32) (x c : Nat) (hx : x = v.toNat) (hc : c < 256) : x / 16777216 ^^^ c < 256 := by
  have hlt := v.isLt
  exact Nat.xor_lt_two_pow (n := 8) (by omega) hc

theorem tab_num (v : BitVec 32) (x c r y : Nat) (hx : x = v.toNat) (hc : c < 256) (hr : r = x / 16777216 ^^^ c) (hy : y = (rowOf r).toNat) :
    bits BinOp.xor IntKind.u32 ((x : Int) * 256 % 4294967296) (y : Int) = (((stepB v c).toNat : Nat) : Int) := by
  have hlt := v.isLt
  rw [← hx] at hlt
  have hr256 := row_lt v x c hx hc
  rw [← hr] at hr256
  have e1 : (x : Int) * 256 % 4294967296 = ((x * 256 % 4294967296 : Nat) : Int) := by omega
  have hy32 : y < 4294967296 := by rw [hy]; exact (rowOf r).isLt
  rw [e1, u32_xor_nat _ _ (by omega) hy32, step_table]
  congr 1
  have e2 : (v >>> 24) ^^^ BitVec.ofNat 32 c = BitVec.ofNat 32 r := by
    apply BitVec.eq_of_toNat_eq
    rw [BitVec.toNat_xor, BitVec.toNat_ushiftRight, ← hx, BitVec.toNat_ofNat, BitVec.toNat_ofNat, Nat.shiftRight_eq_div_pow, Nat.mod_eq_of_lt (show c < 2 ^ 32 by omega), Nat.mod_eq_of_lt (show r < 2 ^ 32 by omega), hr]
  rw [e2, BitVec.toNat_xor, BitVec.toNat_shiftLeft, ← hx, Nat.shiftLeft_eq, hy]
  rfl

set_option maxRecDepth 100000 in
set_option maxHeartbeats 1600000 in
theorem add_full (w : World) (b : Nat) (m : Bool) (v : BitVec 32) (sv : Value) (l : List Nat) (ht : TbAt w b m) (h : SlAt w sv l) (hne : l ≠ []) (hf : ∀ k, sv.ownBlock = some k → k ≠ b) (hl : l.length ≤ 1000000) (h256 : ∀ x ∈ l, x < 256) :
    Calls Try.prog 19 #[.pointer (some ⟨b, 0, none⟩), u32v v, sv] w fun e w' => e = .returned (u32v (crc v l)) ∧ TbIs w' b 1 0 1 256 ∧ Kept (fun k => k = b) w w' := by
  have HT0 : Hid (TbAt w b m) := ht
  have HS0 : Hid (SlAt w sv l) := h
  have H2 : Hid (∀ x ∈ l, x < 256) := h256
  have HF : Hid (∀ k, sv.ownBlock = some k → k ≠ b) := hf
  obtain ⟨a1, c1, rfl, hc1⟩ := h
  have hpos : 0 < l.length := List.length_pos_iff.2 hne
  have hl0 : ((l.length : Int) == 0) = false := by simp; omega
  have hmf : ∀ (fn : Fn) (first cap : Array Value) (w : World), (Instr.makeFunc fn first cap).run Try.prog w = .ok (.func fn first cap) w := fun _ _ _ _ => rfl
  clear ht hc1 h256 hf hne
  go_enter Try.func19, Try.ntmps19
  go_wp2_with (go_at_call 25; refine (do_any _ _ _ HT0.out).mono ?_; rintro e w1 ⟨rfl, ht1, hk1⟩; have HT1 : Hid (TbIs w1 b 1 0 1 256) := ht1; have HK1 : Hid (Kept (fun k => k = b) w w1) := hk1; clear ht1 hk1)
  have HS1 : Hid (SlAt w1 (.slice a1 l.length c1) l) := HS0.out.kept HK1.out (fun k h1 h2 => HF.out k h1 h2)
  go_loopw [1, 21] (fun s i wr => ∃ j x : Nat, j ≤ l.length ∧ i = .int .i64 j ∧ s = .int .u32 (x : Int) ∧ Hid (x = (crc v (l.take j)).toNat) ∧ w1 = wr) (fun _ i _ => l.length - (intOf i).toNat)
  case atStart => exact ⟨0, v.toNat, by omega, rfl, rfl, rfl, rfl⟩
  case round =>
    obtain ⟨j, x, hj, rfl, rfl, hx, rfl⟩ := hrel
    have hx32 : x < 4294967296 := by rw [hx.out]; exact BitVec.isLt _
    by_cases hjl : j < l.length
    · have hcc := HS1.out
      obtain ⟨ao, cc, hv, hcell⟩ := hcc
      cases hv
      obtain ⟨b1, o1, rfl, e1⟩ := hcell j l[j] (by simp [hjl])
      clear hcell
      obtain ⟨c, hc⟩ : ∃ c : Nat, c = l[j] := ⟨_, rfl⟩
      have hc256 : c < 256 := by rw [hc]; exact H2.out _ (by simp)
      have HT : Hid (l[j]? = some c) := by show _ = _; rw [hc]; simp [hjl]
      rw [← hc] at e1
      clear hc
      obtain ⟨r, hr⟩ : ∃ r : Nat, r = x / 16777216 ^^^ c := ⟨_, rfl⟩
      have hr256 : r < 256 := by rw [hr]; exact row_lt _ x c hx.out hc256
      have hrow := add_row _ x c hx.out hc256
      rw [← hr] at hrow
      have hcr : w1.cell? ⟨b, 4 + r, none⟩ = some (u32v (rowOf r)) := by rw [HT1.out.cell, tb_row, rowsTo_get _ _ hr256, if_pos hr256]
      obtain ⟨y, hy⟩ : ∃ y : Nat, y = (rowOf r).toNat := ⟨_, rfl⟩
      have hcr' : w1.cell? ⟨b, 4 + r, none⟩ = some (.int .u32 (y : Int)) := by rw [hcr, hy]
      have HR : Hid (r = x / 16777216 ^^^ c) := hr
      have HY : Hid (y = (rowOf r).toNat) := hy
      clear hcr hr hy
      go_wp2
      rw [tab_num _ x c r y hx.out hc256 HR.out HY.out]
      go_roundw
      case rel => exact ⟨j + 1, _, by omega, by go_num, rfl, by rw [crc_take _ _ _ _ HT.out]; rfl, by trivial⟩
      case measure => simp [intOf]; omega
    · have e : j = l.length := by omega
      go_wp2
      go_ret
      rw [hx.out, e, List.take_length]
      exact ⟨rfl, HT1.out, HK1.out⟩

set_option maxHeartbeats 400000 in
theorem add_empty (w : World) (b : Nat) (v : BitVec 32) (a : Option Addr) (c : Nat) :
    Calls Try.prog 19 #[.pointer (some ⟨b, 0, none⟩), u32v v, .slice a 0 c] w fun e w' => e = .returned (u32v v) ∧ w = w' := by
  go_enter Try.func19, Try.ntmps19
  go_wp2
  go_ret
  exact ⟨rfl, rfl⟩

/-- Add: the sum; the table is made behind it, if it was or there is a byte. -/
theorem tadd_any (w : World) (b : Nat) (m : Bool) (v : BitVec 32) (sv : Value) (l : List Nat) (ht : TbAt w b m) (h : SlAt w sv l) (hf : l ≠ [] → ∀ k, sv.ownBlock = some k → k ≠ b) (hl : l.length ≤ 1000000) (h256 : ∀ x ∈ l, x < 256) :
    Calls Try.prog 19 #[.pointer (some ⟨b, 0, none⟩), u32v v, sv] w fun e w' => e = .returned (u32v (crc v l)) ∧ TbAt w' b (m || !l.isEmpty) ∧ Kept (fun k => k = b) w w' := by
  by_cases hne : l = []
  · subst hne
    obtain ⟨a1, c1, rfl, hc1⟩ := h
    refine (add_empty w b v a1 c1).mono ?_
    rintro e w' ⟨rfl, rfl⟩
    exact ⟨rfl, by simpa using ht, Kept.refl _ _⟩
  · refine (add_full w b m v sv l ht h hne (hf hne) hl h256).mono ?_
    rintro e w' ⟨rfl, h1, h2⟩
    have e : (m || !l.isEmpty) = true := by cases l with
      | nil => exact absurd rfl hne
      | cons _ _ => simp
    exact ⟨rfl, by rw [e]; exact h1, h2⟩

set_option maxHeartbeats 400000 in
theorem tsum_any (w : World) (b : Nat) (m : Bool) (sv : Value) (l : List Nat) (ht : TbAt w b m) (h : SlAt w sv l) (hf : l ≠ [] → ∀ k, sv.ownBlock = some k → k ≠ b) (hl : l.length ≤ 1000000) (h256 : ∀ x ∈ l, x < 256) :
    Calls Try.prog 11 #[.pointer (some ⟨b, 0, none⟩), sv] w fun e w' => e = .returned (u32v (crc ones l)) ∧ TbAt w' b (m || !l.isEmpty) ∧ Kept (fun k => k = b) w w' := by
  have HC : Hid (Calls Try.prog 19 #[.pointer (some ⟨b, 0, none⟩), .int .u32 4294967295, sv] w fun e w' => e = .returned (u32v (crc ones l)) ∧ TbAt w' b (m || !l.isEmpty) ∧ Kept (fun k => k = b) w w') := tadd_any w b m ones sv l ht h hf hl h256
  clear ht h hf h256
  go_enter Try.func11, Try.ntmps11
  go_wp2_with (go_at_call 19; refine HC.out.mono ?_; rintro e w1 ⟨rfl, ht1, hk1⟩; have HT1 : Hid (TbAt w1 b (m || !l.isEmpty)) := ht1; have HK1 : Hid (Kept (fun k => k = b) w w1) := hk1; clear ht1 hk1)
  go_ret
  exact ⟨rfl, HT1.out, HK1.out⟩

set_option maxHeartbeats 400000 in
theorem tmade_any (w : World) (b : Nat) (m : Bool) (ht : TbAt w b m) :
    Calls Try.prog 22 #[.pointer (some ⟨b, 0, none⟩)] w fun e w' => e = .returned (.bool m) ∧ w = w' := by
  have HC : Hid (Calls Try.prog 27 #[.pointer (some ⟨b, 3, none⟩)] w fun e w' => e = .returned (.bool m) ∧ w = w') := by
    cases m
    · exact made_tb w b 0 0 0 0 ht
    · exact made_tb w b 1 0 1 256 ht
  clear ht
  go_enter Try.func22, Try.ntmps22
  go_wp2_with (go_at_call 27; refine HC.out.mono ?_; rintro e w1 ⟨rfl, rfl⟩)
  go_ret
  exact ⟨rfl, rfl⟩

theorem tnew_any (w : World) :
    Calls Try.prog 10 #[] w fun e w' => e = .returned (.pointer (some ⟨w.heap.size, 0, none⟩)) ∧ TbAt w' w.heap.size false ∧ Below w.heap.size w w' ∧ w.heap.size < w'.heap.size := by
  refine (new_raw w).mono ?_
  rintro e w' ⟨rfl, rfl⟩
  exact ⟨rfl, heap_alloc_new w _, (Below.refl _ _).alloc (Nat.le_refl _) _, by simp⟩

end Go.Proofs.Ythcjgcfmodkiiaa
