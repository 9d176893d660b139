/- The reader: Get. -/
import Derived.Test.YtlonnoapbfjomabGreatWalk5
namespace Go.Proofs.YtlonnoapbfjomabGreat
set_option linter.unusedVariables false
set_option linter.unusedSimpArgs false
open Go.RowKit Dg

theorem RdAt.drew {w : World} {b : Nat} {rv : Value} {l : List Nat} {k : Nat} (h : RdAt w b rv l k) : RdAt w.drew b rv l k := ⟨h.box, h.row, h.le, h.ne, h.byte, h.small⟩
theorem RdAt.lt {w : World} {b : Nat} {rv : Value} {l : List Nat} {k : Nat} (h : RdAt w b rv l k) : b < w.heap.size := (Array.getElem?_eq_some_iff.1 h.box).1
theorem RdAt.kept {w w' : World} {b : Nat} {rv : Value} {l : List Nat} {k : Nat} {F : Nat → Prop} (h : RdAt w b rv l k) (hk : Kept F w w') (hb : ¬ F b) (hF : ∀ k, rv.ownBlock = some k → ¬ F k) : RdAt w' b rv l k :=
  ⟨by rw [hk.block b h.lt hb]; exact h.box, h.row.kept hk hF, h.le, h.ne, h.byte, h.small⟩
/-- Some digits more are taken. -/
theorem RdAt.take {w : World} {b : Nat} {rv : Value} {l : List Nat} {k : Nat} (h : RdAt w b rv l k) (k' : Nat) (hk : k' ≤ 8 * l.length) : RdAt (w.setCell ⟨b, 1, none⟩ (.int .i64 (k' : Nat))) b rv l k' := by
  refine ⟨?_, h.row.kept (F := fun k => k = b) (Kept.setCell _ _ _ rfl) (fun k hk => ?_), hk, h.ne, h.byte, h.small⟩
  · rw [heap_setCell_of h.box]; simp
  · rintro rfl; exact h.ne hk

theorem getElem?_drop_head (ds : List Bool) (k : Nat) (h : k < ds.length) : ∃ d, ds[k]? = some d := ⟨ds[k], by simp [h]⟩

theorem digit_at (w : World) (b : Nat) (rv : Value) (l : List Nat) (k : Nat) (h : RdAt w b rv l k) (i : Nat) (d : Bool) (hd : (unpack l)[i]? = some d) (I : Int) (hI : I = (i : Int)) :
    Calls Tryz.prog 63 #[.pointer (some ⟨b, 0, none⟩), .int .i64 I] w fun e w' => e = .returned (.int .u8 (d.toNat : Int)) ∧ w = w' := by
  subst hI
  exact (digit_any w b rv l k h i d hd).mono fun e w' ⟨h1, h2⟩ => ⟨h1, h2.symm⟩

set_option maxHeartbeats 400000 in
theorem get_bad (w : World) (p : Value) (n : Int) (hn : n < 0 ∨ 62 < n) :
    Calls Tryz.prog 58 #[p, .int .i64 n] w fun e w' => e = .returned (.tuple #[.int .i64 0, .bool false]) ∧ w = w' := by
  rcases hn with h | h
  · go_enter Tryz.func58, Tryz.ntmps58
    go_wp2
    go_ret2
    exact ⟨rfl, rfl⟩
  · have h' : 0 ≤ n := by omega
    go_enter Tryz.func58, Tryz.ntmps58
    go_wp2
    go_ret2
    exact ⟨rfl, rfl⟩

set_option maxHeartbeats 400000 in
theorem get_few (w : World) (b : Nat) (rv : Value) (l : List Nat) (k : Nat) (n : Int) (h : RdAt w b rv l k) (h0 : 0 ≤ n) (h62 : n ≤ 62) (hn : 8 * (l.length : Int) - k < n) :
    Calls Tryz.prog 58 #[.pointer (some ⟨b, 0, none⟩), .int .i64 n] w fun e w' => e = .returned (.tuple #[.int .i64 0, .bool false]) ∧ w' = w.drew := by
  have HR : Hid (RdAt w b rv l k) := h
  clear h
  go_enter Tryz.func58, Tryz.ntmps58
  go_wp2_with (go_at_call 75; refine (left_any _ b rv l k HR.out).mono ?_; rintro e w2 ⟨rfl, rfl⟩)
  go_ret2
  exact ⟨rfl, rfl⟩

set_option maxHeartbeats 1000000 in
theorem get_any (w : World) (b : Nat) (rv : Value) (l : List Nat) (k n : Nat) (h : RdAt w b rv l k) (h62 : n ≤ 62) (hn : k + n ≤ 8 * l.length) :
    Calls Tryz.prog 58 #[.pointer (some ⟨b, 0, none⟩), .int .i64 n] w fun e w' => e = .returned (.tuple #[.int .i64 (num (((unpack l).drop k).take n) : Nat), .bool true]) ∧ RdAt w' b rv l (k + n) ∧ Kept (fun i => i = b) w w' := by
  have HR : Hid (RdAt w b rv l k) := h
  clear h
  have hle : (n : Int) ≤ 8 * (l.length : Int) - k := by omega
  go_enter Tryz.func58, Tryz.ntmps58
  go_wp2_with (go_at_call 75; refine (left_any _ b rv l k HR.out).mono ?_; rintro e w2 ⟨rfl, rfl⟩)
  go_loopw [6, 20] (fun v i wr => ∃ j : Nat, j ≤ n ∧ i = .int .i64 j ∧ v = .int .i64 (num (((unpack l).drop k).take j) : Nat) ∧ Hid (RdAt wr b rv l (k + j)) ∧ Hid (Kept (fun i => i = b) w wr)) (fun _ i _ => n - (intOf i).toNat)
  case atStart => exact ⟨0, Nat.zero_le _, rfl, rfl, HR.out.drew, (Kept.refl _ _).drew⟩
  case round =>
    obtain ⟨j, hj, rfl, rfl, hr, hkp⟩ := hrel
    by_cases hjn : j < n
    · obtain ⟨d, hd⟩ := getElem?_drop_head (unpack l) (k + j) (by simp; omega)
      obtain ⟨v, hv⟩ : ∃ v : Nat, v = num (((unpack l).drop k).take j) := ⟨_, rfl⟩
      have hb1 : wr.cell? ⟨b, 1, none⟩ = some (.int .i64 ((k : Int) + j)) := by simp [World.cell?, hr.out.box]
      have fb1 : wr.frozen? ⟨b, 1, none⟩ = false := by simp [World.frozen?, hr.out.box]
      rw [← hv]
      have HV : Hid (v = num (((unpack l).drop k).take j)) := hv
      have HD : Hid ((unpack l)[k + j]? = some d) := hd
      clear hv hd
      have hvb : v < 2305843009213693952 := by
        have h1 := num_lt (((unpack l).drop k).take j)
        rw [← HV.out] at h1
        have h2 : 2 ^ (((unpack l).drop k).take j).length ≤ 2 ^ 61 := Nat.pow_le_pow_right (by decide) (by simp; omega)
        have h3 : (2 : Nat) ^ 61 = 2305843009213693952 := by decide
        omega
      have hor := or_i64 v d (by omega)
      have hd1 : d.toNat ≤ 1 := by cases d <;> decide
      have hsm : l.length ≤ 4398046511104 := HR.out.small
      go_wp2_with (go_at_call 63; refine (digit_at _ b rv l (k + j) hr.out (k + j) d HD.out _ (by omega)).mono ?_; rintro e w2 ⟨rfl, rfl⟩)
      go_roundw
      case rel =>
        refine ⟨j + 1, by omega, by go_num, ?_, ?_, ?_⟩
        · rw [take_drop_snoc _ _ _ _ HD.out, num_snoc, ← HV.out]; go_num
        · have := hr.out.take (k + (j + 1)) (by omega)
          have e : ((k + (j + 1) : Nat) : Int) = (k : Int) + j + 1 := by omega
          rw [e] at this
          exact this
        · exact hkp.out.trans (Kept.setCell _ _ _ rfl)
      case measure => simp [intOf]; omega
    · have e : j = n := by omega
      go_wp2
      go_ret2
      subst e
      exact ⟨rfl, hr.out, hkp.out⟩

end Go.Proofs.YtlonnoapbfjomabGreat
