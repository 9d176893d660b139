/- The texts Walk6, Walk7, Walk8, Walk9, Row, Post, Acts, Ints, IntsB, FixMath, one behind the other. -/
import Derived.Test.YtejgkgnocgplbabGreatPart01
import Derived.ProofKit
import Derived.OpenShut
import Derived.Deep.Slices
import Derived.Laws.AppendOwnNone
import Derived.Deep.RegionLaw

/- The reader: Get. -/
namespace Go.Proofs.YtejgkgnocgplbabGreat
set_option linter.unusedVariables false
set_option linter.unusedSimpArgs false
open Go.RowKit Dg

theorem RdAt.drew {w : World} {b : Nat} {rv : Value} {l : List Nat} {k : Nat} (h : RdAt w b rv l k) : RdAt w.drew b rv l k := ⟨h.box, h.row, h.le, h.ne, h.byte, h.small⟩
theorem RdAt.lt {w : World} {b : Nat} {rv : Value} {l : List Nat} {k : Nat} (h : RdAt w b rv l k) : b < w.heap.size := (Array.getElem?_eq_some_iff.1 h.box).1
theorem RdAt.kept {w w' : World} {b : Nat} {rv : Value} {l : List Nat} {k : Nat} {F : Nat → Prop} (h : RdAt w b rv l k) (hk : Kept F w w') (hb : ¬ F b) (hF : ∀ k, rv.ownBlock = some k → ¬ F k) : RdAt w' b rv l k :=
  ⟨by rw [hk.block b h.lt hb]; exact h.box, h.row.kept hk hF, h.le, h.ne, h.byte, h.small⟩
/-- Some digits more are taken. -/
theorem RdAt.take {w : World} {b : Nat} {rv : Value} {l : List Nat} {k : Nat} (h : RdAt w b rv l k) (k' : Nat) (hk : k' ≤ 8 * l.length) : RdAt (w.setCell ⟨b, 1, none⟩ (.int .i64 (k' : Nat))) b rv l k' := by
  refine ⟨?_, h.row.kept (F := fun k => k = b) (Kept.setCell _ _ _ rfl) (fun k hk => ?_), hk, h.ne, h.byte, h.small⟩
  · rw [heap_setCell_of h.box]; simp
  · rintro rfl; exact h.ne hk

theorem getElem?_drop_head (ds : List Bool) (k : Nat) (h : k < ds.length) : ∃ d, ds[k]? = some d := ⟨ds[k], by simp [h]⟩

theorem digit_at (w : World) (b : Nat) (rv : Value) (l : List Nat) (k : Nat) (h : RdAt w b rv l k) (i : Nat) (d : Bool) (hd : (unpack l)[i]? = some d) (I : Int) (hI : I = (i : Int)) :
    Calls Tryz.prog 42 #[.pointer (some ⟨b, 0, none⟩), .int .i64 I] w fun e w' => e = .returned (.int .u8 (d.toNat : Int)) ∧ w = w' := by
  subst hI
  exact (digit_any w b rv l k h i d hd).mono fun e w' ⟨h1, h2⟩ => ⟨h1, h2.symm⟩

set_option maxHeartbeats 400000 in
theorem get_bad (w : World) (p : Value) (n : Int) (hn : n < 0 ∨ 62 < n) :
    Calls Tryz.prog 35 #[p, .int .i64 n] w fun e w' => e = .returned (.tuple #[.int .i64 0, .bool false]) ∧ w = w' := by
  rcases hn with h | h
  · go_enter Tryz.func35, Tryz.ntmps35
    go_wp2
    go_ret2
    exact ⟨rfl, rfl⟩
  · have h' : 0 ≤ n := by omega
    go_enter Tryz.func35, Tryz.ntmps35
    go_wp2
    go_ret2
    exact ⟨rfl, rfl⟩

set_option maxHeartbeats 400000 in
theorem get_few (w : World) (b : Nat) (rv : Value) (l : List Nat) (k : Nat) (n : Int) (h : RdAt w b rv l k) (h0 : 0 ≤ n) (h62 : n ≤ 62) (hn : 8 * (l.length : Int) - k < n) :
    Calls Tryz.prog 35 #[.pointer (some ⟨b, 0, none⟩), .int .i64 n] w fun e w' => e = .returned (.tuple #[.int .i64 0, .bool false]) ∧ w' = w.drew := by
  have HR : Hid (RdAt w b rv l k) := h
  clear h
  go_enter Tryz.func35, Tryz.ntmps35
  go_wp2_with (go_at_call 50; refine (left_any _ b rv l k HR.out).mono ?_; rintro e w2 ⟨rfl, rfl⟩)
  go_ret2
  exact ⟨rfl, rfl⟩

set_option maxHeartbeats 1000000 in
theorem get_any (w : World) (b : Nat) (rv : Value) (l : List Nat) (k n : Nat) (h : RdAt w b rv l k) (h62 : n ≤ 62) (hn : k + n ≤ 8 * l.length) :
    Calls Tryz.prog 35 #[.pointer (some ⟨b, 0, none⟩), .int .i64 n] w fun e w' => e = .returned (.tuple #[.int .i64 (num (((unpack l).drop k).take n) : Nat), .bool true]) ∧ RdAt w' b rv l (k + n) ∧ Kept (fun i => i = b) w w' := by
  have HR : Hid (RdAt w b rv l k) := h
  clear h
  have hle : (n : Int) ≤ 8 * (l.length : Int) - k := by omega
  go_enter Tryz.func35, Tryz.ntmps35
  go_wp2_with (go_at_call 50; refine (left_any _ b rv l k HR.out).mono ?_; rintro e w2 ⟨rfl, rfl⟩)
  go_loopw [6, 20] (fun v i wr => ∃ j : Nat, j ≤ n ∧ i = .int .i64 j ∧ v = .int .i64 (num (((unpack l).drop k).take j) : Nat) ∧ Hid (RdAt wr b rv l (k + j)) ∧ Hid (Kept (fun i => i = b) w wr)) (fun _ i _ => n - (intOf i).toNat)
  case atStart => exact ⟨0, Nat.zero_le _, rfl, rfl, HR.out.drew, (Kept.refl _ _).drew⟩
  case round =>
    obtain ⟨j, hj, rfl, rfl, hr, hkp⟩ := hrel
    by_cases hjn : j < n
    · obtain ⟨d, hd⟩ := getElem?_drop_head (unpack l) (k + j) (by simp; omega)
      obtain ⟨v, hv⟩ : ∃ v : Nat, v = num (((unpack l).drop k).take j) := ⟨_, rfl⟩
      have hb1 : wr.cell? ⟨b, 1, none⟩ = some (.int .i64 ((k : Int) + j)) := by simp [World.cell?, hr.out.box]
      have fb1 : wr.frozen? ⟨b, 1, none⟩ = false := by simp [World.frozen?, hr.out.box]
      rw [← hv]
      have HV : Hid (v = num (((unpack l).drop k).take j)) := hv
      have HD : Hid ((unpack l)[k + j]? = some d) := hd
      clear hv hd
      have hvb : v < 2305843009213693952 := by
        have h1 := num_lt (((unpack l).drop k).take j)
        rw [← HV.out] at h1
        have h2 : 2 ^ (((unpack l).drop k).take j).length ≤ 2 ^ 61 := Nat.pow_le_pow_right (by decide) (by simp; omega)
        have h3 : (2 : Nat) ^ 61 = 2305843009213693952 := by decide
        omega
      have hor := or_i64 v d (by omega)
      have hd1 : d.toNat ≤ 1 := by cases d <;> decide
      have hsm : l.length ≤ 4398046511104 := HR.out.small
      go_wp2_with (go_at_call 42; refine (digit_at _ b rv l (k + j) hr.out (k + j) d HD.out _ (by omega)).mono ?_; rintro e w2 ⟨rfl, rfl⟩)
      go_roundw
      case rel =>
        refine ⟨j + 1, by omega, by go_num, ?_, ?_, ?_⟩
        · rw [take_drop_snoc _ _ _ _ HD.out, num_snoc, ← HV.out]; go_num
        · have := hr.out.take (k + (j + 1)) (by omega)
          have e : ((k + (j + 1) : Nat) : Int) = (k : Int) + j + 1 := by omega
          rw [e] at this
          exact this
        · exact hkp.out.trans (Kept.setCell _ _ _ rfl)
      case measure => simp [intOf]; omega
    · have e : j = n := by omega
      go_wp2
      go_ret2
      subst e
      exact ⟨rfl, hr.out, hkp.out⟩

end Go.Proofs.YtejgkgnocgplbabGreat

/- Same at like bytes; the document's example. -/
namespace Go.Proofs.YtejgkgnocgplbabGreat
set_option linter.unusedVariables false
set_option linter.unusedSimpArgs false
open Go.RowKit Dg

theorem newWriter_any (w : World) :
    Calls Tryz.prog 43 #[] w fun e w' => e = .returned (.pointer (some ⟨w.heap.size, 0, none⟩)) ∧ WrAt w' w.heap.size (.slice none 0 0) [] ∧ Below w.heap.size w w' ∧ w.heap.size < w'.heap.size := by
  refine (newWriter_raw w).mono ?_
  rintro e w' ⟨rfl, rfl⟩
  exact ⟨rfl, ⟨heap_alloc_new w _, World.ownsRow_nil _ _ _ _⟩, (Below.refl _ _).alloc (Nat.le_refl _) _, by simp⟩

theorem len_any (w : World) (b : Nat) (rv : Value) (ds : List Bool) (h : WrAt w b rv ds) :
    Calls Tryz.prog 31 #[.pointer (some ⟨b, 0, none⟩)] w fun e w' => e = .returned (.int .i64 (ds.length : Int)) ∧ w = w' :=
  (len_raw w b _ (by simp [World.cell?, h.box])).mono fun e w' ⟨h1, h2⟩ => ⟨h1, h2.symm⟩

/-- A change of a writer that lies from B on turns nothing below B. -/
theorem Kept.below_of {F : Nat → Prop} {B : Nat} {w0 w w' : World} (hk : Kept F w w') (h0 : Below B w0 w) (hF : ∀ k, F k → B ≤ k) (hB : B ≤ w.heap.size) : Below B w0 w' :=
  h0.trans ⟨hk.os, hk.tape, hk.output, hk.size, fun k hk' => hk.block k (by omega) (fun hf => by have := hF k hf; omega)⟩

theorem below_drewN {B : Nat} {w0 w : World} (h : Below B w0 w) (n : Nat) : Below B w0 (w.drewN n) := ⟨h.os, h.tape, h.output, h.size, h.block⟩

theorem wakes_l {w2 w3 : World} {l : List Nat} (h : NewBytes w2 w3 l) (o : Obj) : SlAt (w3.alloc o) (.slice (some ⟨w2.heap.size, 0, none⟩) l.length l.length) l :=
  SlAt.of_owns (h.1.alloc o)
theorem wakes_r (w3 : World) (l : List Nat) (h : l = [80]) : SlAt (w3.alloc (.cells #[.int .u8 80] 5)) (.slice (some ⟨w3.heap.size, 0, none⟩) 1 1) l := by
  subst h
  refine ⟨some ⟨w3.heap.size, 0, none⟩, 1, rfl, fun j x hx => ⟨w3.heap.size, 0, rfl, ?_⟩⟩
  match j, hx with
  | 0, hx => simp at hx; subst hx; simp

end Go.Proofs.YtejgkgnocgplbabGreat

/- The contracts once more, over numbers as a walk spells them. -/
namespace Go.Proofs.YtejgkgnocgplbabGreat
set_option linter.unusedVariables false
set_option linter.unusedSimpArgs false
open Go.RowKit Dg

theorem within_nat (v : Int) (n : Nat) (w : World) (hv1 : -9223372036854775808 ≤ v) (hv2 : v ≤ 9223372036854775807) (hn1 : 1 ≤ n) (hn2 : n ≤ 4611686018427387904) (I : Int) (hI : I = (n : Int)) :
    Calls Tryz.prog 5 #[.int .i64 v, .int .i64 I] w fun e w' => ∃ k : Nat, e = .returned (.int .i64 (k : Int)) ∧ k < n ∧ (k : Int) = v % n ∧ w = w' := by
  subst hI
  refine (within_any v n w hv1 hv2 (by omega) (by omega)).mono ?_
  rintro e w' ⟨rfl, rfl⟩
  refine ⟨(v % n).toNat, ?_, ?_, ?_, rfl⟩
  · have : 0 ≤ v % (n : Int) := Int.emod_nonneg _ (by omega)
    exact ret_int (by omega)
  · have : v % (n : Int) < n := Int.emod_lt_of_pos _ (by omega)
    omega
  · have : 0 ≤ v % (n : Int) := Int.emod_nonneg _ (by omega)
    omega

theorem put_at (w : World) (b : Nat) (rv : Value) (ds : List Bool) (v : Int) (n : Nat) (h : WrAt w b rv ds) (hlt : ds.length < 4398046511000) (hn : n ≤ 62) (I : Int) (hI : I = (n : Int)) :
    Calls Tryz.prog 44 #[.pointer (some ⟨b, 0, none⟩), .int .i64 v, .int .i64 I] w fun e w' => e = .returned (.bool true) ∧ Wrote w w' b rv (ds ++ dig v n) := by
  subst hI; exact put_any w b rv ds v n h hlt hn

/-- Get, what is taken under a name. -/
theorem get_at (w : World) (b : Nat) (rv : Value) (l : List Nat) (k n : Nat) (h : RdAt w b rv l k) (h62 : n ≤ 62) (hn : k + n ≤ 8 * l.length) (I : Int) (hI : I = (n : Int)) (x : Int) (hx : ((num (((unpack l).drop k).take n) : Nat) : Int) = x) :
    Calls Tryz.prog 35 #[.pointer (some ⟨b, 0, none⟩), .int .i64 I] w fun e w' => e = .returned (.tuple #[.int .i64 x, .bool true]) ∧ RdAt w' b rv l (k + n) ∧ Kept (fun i => i = b) w w' := by
  subst hI; subst hx; exact get_any w b rv l k n h h62 hn

theorem wrap64_pow (k : Nat) (hk : k ≤ 62) : wrap64 (2 ^ k) = ((2 ^ k : Nat) : Int) := by
  have h1 : 2 ^ k ≤ 2 ^ 62 := Nat.pow_le_pow_right (by decide) hk
  have h2 : (2 : Nat) ^ 62 = 4611686018427387904 := by decide
  rw [← pow_cast k]
  generalize 2 ^ k = P at h1 ⊢
  unfold wrap64
  omega

theorem Wf_nil {b k : Nat} (h : Wf b (.slice none 0 0) k) : k = b := by
  rcases h with h | h
  · exact h
  · simp [Value.ownBlock] at h

/-- What is read of digits that were written. -/
theorem taken (ds es fs : List Bool) (h : ds = es ++ fs) (k n : Nat) (hk : k = es.length) (hn : n ≤ fs.length) : ((unpack (pack ds)).drop k).take n = fs.take n := by
  rw [unpack_pack, h, hk, List.append_assoc, List.drop_left, List.take_append_of_le_length hn]

theorem and_mask (v m : Nat) (hv : v < 4611686018427387904) (hm : m ≤ 31) : bits BinOp.and IntKind.i64 (v : Int) (2 ^ m - 1) = ((v % 2 ^ m : Nat) : Int) := by
  have hp : 2 ^ m ≤ 2 ^ 31 := Nat.pow_le_pow_right (by decide) hm
  have hp2 : (2 : Nat) ^ 31 = 2147483648 := by decide
  have hp0 : 0 < 2 ^ m := Nat.pow_pos (by decide)
  have e : ((2 : Int) ^ m - 1) = ((2 ^ m - 1 : Nat) : Int) := by rw [← pow_cast]; omega
  rw [e]
  show IntKind.i64.wrap ((BitVec.ofInt 64 ((v : Nat) : Int) &&& BitVec.ofInt 64 ((2 ^ m - 1 : Nat) : Int)).toNat : Int) = _
  rw [BitVec.toNat_and, ofInt_u64 v (by omega), ofInt_u64 (2 ^ m - 1) (by omega), Nat.and_two_pow_sub_one_eq_mod]
  have hlt : v % 2 ^ m < 2 ^ m := Nat.mod_lt _ hp0
  have hw : ∀ n : Nat, n < 9223372036854775808 → IntKind.i64.wrap ((n : Nat) : Int) = (n : Int) := by
    intro n hn
    simp [IntKind.wrap, IntKind.bits, IntKind.signed]
    omega
  exact hw _ (by omega)

theorem and_mask' (v m : Nat) (hv : v < 4611686018427387904) (hm : m ≤ 31) : bits BinOp.and IntKind.i64 (v : Int) (wrap64 (wrap64 (2 ^ m) - 1)) = (v : Int) % 2 ^ m := by
  have hp : 2 ^ m ≤ 2 ^ 31 := Nat.pow_le_pow_right (by decide) hm
  have hp2 : (2 : Nat) ^ 31 = 2147483648 := by decide
  have e : wrap64 (wrap64 (2 ^ m) - 1) = (2 : Int) ^ m - 1 := by
    rw [wrap64_pow m (by omega), ← pow_cast]
    generalize 2 ^ m = P at hp ⊢
    unfold wrap64
    omega
  rw [e, and_mask v m hv hm]
  push_cast; rfl

theorem WrAt.below {w w' : World} {b : Nat} {rv : Value} {ds : List Bool} (h : WrAt w b rv ds) (hb : Below w.heap.size w w') : WrAt w' b rv ds :=
  h.other (F := fun _ => False) (Kept.of_below hb) (fun _ _ h => h)
theorem RdAt.below {w w' : World} {b : Nat} {rv : Value} {l : List Nat} {k : Nat} (h : RdAt w b rv l k) (hb : Below w.heap.size w w') : RdAt w' b rv l k :=
  h.kept (F := fun _ => False) (Kept.of_below hb) (fun h => h) (fun _ _ h => h)
theorem SlAt.below {w w' : World} {v : Value} {l : List Nat} (h : SlAt w v l) (hb : Below w.heap.size w w') : SlAt w' v l :=
  h.kept (F := fun _ => False) (Kept.of_below hb) (fun _ _ h => h)
theorem RdAt.foot {w : World} {b : Nat} {rv : Value} {l : List Nat} {k : Nat} (h : RdAt w b rv l k) : b < w.heap.size := h.lt

end Go.Proofs.YtejgkgnocgplbabGreat

/- The reader: Ones and Rest. -/
namespace Go.Proofs.YtejgkgnocgplbabGreat
set_option linter.unusedVariables false
set_option linter.unusedSimpArgs false
open Go.RowKit Dg

set_option maxHeartbeats 400000 in
theorem rones_bad (w : World) (p : Value) (n : Int) (hn : n < 0 ∨ 1024 < n) :
    Calls Tryz.prog 97 #[p, .int .i64 n] w fun e w' => e = .returned (.tuple #[.int .i64 0, .bool false]) ∧ w = w' := by
  rcases hn with h | h
  · go_enter Tryz.func97, Tryz.ntmps97
    go_wp2
    go_ret2
    exact ⟨rfl, rfl⟩
  · have h' : 0 ≤ n := by omega
    go_enter Tryz.func97, Tryz.ntmps97
    go_wp2
    go_ret2
    exact ⟨rfl, rfl⟩

set_option maxHeartbeats 1000000 in
/-- There are as many ones as are asked for. -/
theorem rones_most (w : World) (b : Nat) (rv : Value) (l : List Nat) (k c : Nat) (h : RdAt w b rv l k) (hm : c ≤ 1024) (hc : k + c ≤ 8 * l.length) (ho : ∀ i, i < c → (unpack l)[k + i]? = some true) :
    Calls Tryz.prog 97 #[.pointer (some ⟨b, 0, none⟩), .int .i64 c] w fun e w' => e = .returned (.tuple #[.int .i64 c, .bool true]) ∧ RdAt w' b rv l (k + c) ∧ Kept (fun i => i = b) w w' := by
  have HR : Hid (RdAt w b rv l k) := h
  have HO : Hid (∀ i, i < c → (unpack l)[k + i]? = some true) := ho
  have hb1 : w.cell? ⟨b, 1, none⟩ = some (.int .i64 (k : Int)) := by simp [World.cell?, h.box]
  have fb1 : w.frozen? ⟨b, 1, none⟩ = false := by simp [World.frozen?, h.box]
  have hsm : l.length ≤ 4398046511104 := h.small
  clear h ho
  go_enter Tryz.func97, Tryz.ntmps97
  go_wp2_with (go_at_call 50; refine (left_any _ b rv l k HR.out).mono ?_; rintro e w2 ⟨rfl, rfl⟩)
  go_loop [7] (fun i => ∃ j : Nat, j ≤ c ∧ i = .int .i64 j) (fun i => c - (intOf i).toNat)
  case atStart => exact ⟨0, Nat.zero_le _, rfl⟩
  case round =>
    obtain ⟨j, hj, rfl⟩ := hrel
    by_cases hjc : j < c
    · have hjl : (j : Int) < 8 * (l.length : Int) - k := by omega
      go_wp2_with (go_at_call 42; refine (digit_at _ b rv l k HR.out.drew (k + j) true (HO.out j hjc) _ (by omega)).mono ?_; rintro e w2 ⟨rfl, rfl⟩)
      go_round
      case rel => exact ⟨j + 1, by omega, by go_num⟩
      case measure => simp [intOf]; omega
    · have e : j = c := by omega
      subst e
      go_wp2
      go_ret2
      refine ⟨rfl, ?_, ?_⟩
      · have := (HR.out.drew).take (k + j) (by omega)
        have e : ((k + j : Nat) : Int) = (k : Int) + j := by omega
        rw [e] at this
        exact this
      · exact (Kept.refl _ _).drew.trans (Kept.setCell _ _ _ rfl)

set_option maxHeartbeats 1000000 in
/-- The digits end. -/
theorem rones_end (w : World) (b : Nat) (rv : Value) (l : List Nat) (k c : Nat) (most : Int) (h : RdAt w b rv l k) (hm0 : (c : Int) < most) (hm : most ≤ 1024) (hc : k + c = 8 * l.length) (ho : ∀ i, i < c → (unpack l)[k + i]? = some true) :
    Calls Tryz.prog 97 #[.pointer (some ⟨b, 0, none⟩), .int .i64 most] w fun e w' => e = .returned (.tuple #[.int .i64 0, .bool false]) ∧ w' = w.drew := by
  have HR : Hid (RdAt w b rv l k) := h
  have HO : Hid (∀ i, i < c → (unpack l)[k + i]? = some true) := ho
  have hb1 : w.cell? ⟨b, 1, none⟩ = some (.int .i64 (k : Int)) := by simp [World.cell?, h.box]
  have hsm : l.length ≤ 4398046511104 := h.small
  have HC : Hid (k + c = 8 * l.length) := hc
  have hc2 : (8 * (l.length : Int) - k) = c := by omega
  have HC2 : Hid ((8 * (l.length : Int) - k) = c) := hc2
  clear h ho hc hc2
  go_enter Tryz.func97, Tryz.ntmps97
  go_wp2_with (go_at_call 50; refine (left_any _ b rv l k HR.out).mono ?_; rintro e w2 ⟨rfl, rfl⟩)
  go_loop [7] (fun i => ∃ j : Nat, j ≤ c ∧ i = .int .i64 j) (fun i => c - (intOf i).toNat)
  case atStart => exact ⟨0, Nat.zero_le _, rfl⟩
  case round =>
    obtain ⟨j, hj, rfl⟩ := hrel
    by_cases hjc : j < c
    · have hjl : (j : Int) < 8 * (l.length : Int) - k := by have := HC.out; omega
      go_wp2_with (go_at_call 42; refine (digit_at _ b rv l k HR.out.drew (k + j) true (HO.out j hjc) _ (by omega)).mono ?_; rintro e w2 ⟨rfl, rfl⟩)
      go_round
      case rel => exact ⟨j + 1, by omega, by go_num⟩
      case measure => simp [intOf]; omega
    · have e : j = c := by omega
      subst e
      have hjl : ¬ (j : Int) < 8 * (l.length : Int) - k := by have := HC.out; omega
      have hje : ((j : Int) == 8 * (l.length : Int) - k) = true := by have := HC2.out; simp; omega
      have hjm : ((j : Int) == most) = false := by simp; omega
      go_wp2
      go_ret2
      exact ⟨rfl, rfl⟩

set_option maxHeartbeats 1000000 in
/-- A nought comes. -/
theorem rones_nought (w : World) (b : Nat) (rv : Value) (l : List Nat) (k c : Nat) (most : Int) (h : RdAt w b rv l k) (hm0 : (c : Int) < most) (hm : most ≤ 1024) (hc : (unpack l)[k + c]? = some false) (ho : ∀ i, i < c → (unpack l)[k + i]? = some true) :
    Calls Tryz.prog 97 #[.pointer (some ⟨b, 0, none⟩), .int .i64 most] w fun e w' => e = .returned (.tuple #[.int .i64 c, .bool true]) ∧ RdAt w' b rv l (k + c + 1) ∧ Kept (fun i => i = b) w w' := by
  have HR : Hid (RdAt w b rv l k) := h
  have HO : Hid (∀ i, i < c → (unpack l)[k + i]? = some true) := ho
  have HC : Hid ((unpack l)[k + c]? = some false) := hc
  have hlt : k + c < 8 * l.length := by have := (List.getElem?_eq_some_iff.1 hc).1; simpa using this
  have hb1 : w.cell? ⟨b, 1, none⟩ = some (.int .i64 (k : Int)) := by simp [World.cell?, h.box]
  have fb1 : w.frozen? ⟨b, 1, none⟩ = false := by simp [World.frozen?, h.box]
  have hsm : l.length ≤ 4398046511104 := h.small
  clear h ho hc
  go_enter Tryz.func97, Tryz.ntmps97
  go_wp2_with (go_at_call 50; refine (left_any _ b rv l k HR.out).mono ?_; rintro e w2 ⟨rfl, rfl⟩)
  go_loop [7] (fun i => ∃ j : Nat, j ≤ c ∧ i = .int .i64 j) (fun i => c - (intOf i).toNat)
  case atStart => exact ⟨0, Nat.zero_le _, rfl⟩
  case round =>
    obtain ⟨j, hj, rfl⟩ := hrel
    have hjl : (j : Int) < 8 * (l.length : Int) - k := by omega
    by_cases hjc : j < c
    · go_wp2_with (go_at_call 42; refine (digit_at _ b rv l k HR.out.drew (k + j) true (HO.out j hjc) _ (by omega)).mono ?_; rintro e w2 ⟨rfl, rfl⟩)
      go_round
      case rel => exact ⟨j + 1, by omega, by go_num⟩
      case measure => simp [intOf]; omega
    · have e : j = c := by omega
      subst e
      have hjm : ((j : Int) == most) = false := by simp; omega
      have hje : ((j : Int) == 8 * (l.length : Int) - k) = false := by simp; omega
      go_wp2_with (go_at_call 42; refine (digit_at _ b rv l k HR.out.drew (k + j) false HC.out _ (by omega)).mono ?_; rintro e w2 ⟨rfl, rfl⟩)
      go_ret2
      refine ⟨rfl, ?_, ?_⟩
      · have := (HR.out.drew).take (k + j + 1) (by omega)
        have e : ((k + j + 1 : Nat) : Int) = (k : Int) + (j + 1) := by omega
        rw [e] at this
        exact this
      · exact (Kept.refl _ _).drew.trans (Kept.setCell _ _ _ rfl)

set_option maxHeartbeats 1000000 in
theorem rest_true (w : World) (b : Nat) (rv : Value) (l : List Nat) (k : Nat) (h : RdAt w b rv l k) (ho : ∀ i, k ≤ i → i < 8 * l.length → (unpack l)[i]? = some false) :
    Calls Tryz.prog 26 #[.pointer (some ⟨b, 0, none⟩)] w fun e w' => e = .returned (.bool true) ∧ w = w' := by
  have HR : Hid (RdAt w b rv l k) := h
  have HO : Hid (∀ i, k ≤ i → i < 8 * l.length → (unpack l)[i]? = some false) := ho
  have hb0 : w.cell? ⟨b, 0, none⟩ = some rv := by simp [World.cell?, h.box]
  have hb1 : w.cell? ⟨b, 1, none⟩ = some (.int .i64 (k : Int)) := by simp [World.cell?, h.box]
  have hsm : l.length ≤ 4398046511104 := h.small
  have hle : k ≤ 8 * l.length := h.le
  have hrv : ∃ ao cap, rv = .slice ao l.length cap := by obtain ⟨ao, cap, e, _⟩ := h.row; exact ⟨ao, cap, e⟩
  obtain ⟨ao, cap, rfl⟩ := hrv
  clear h ho
  go_enter Tryz.func26, Tryz.ntmps26
  go_wp2
  go_loop [3] (fun i => ∃ j : Nat, k ≤ j ∧ j ≤ 8 * l.length ∧ i = .int .i64 j) (fun i => 8 * l.length - (intOf i).toNat)
  case atStart => exact ⟨k, Nat.le_refl _, hle, rfl⟩
  case round =>
    obtain ⟨j, hj, hj2, rfl⟩ := hrel
    by_cases hjc : j < 8 * l.length
    · go_wp2_with (go_at_call 42; refine (digit_at _ b _ l k HR.out j false (HO.out j hj hjc) _ rfl).mono ?_; rintro e w2 ⟨rfl, rfl⟩)
      go_round
      case rel => exact ⟨j + 1, by omega, by omega, by go_num⟩
      case measure => simp [intOf]; omega
    · go_wp2
      go_ret
      exact ⟨rfl, rfl⟩

set_option maxHeartbeats 1000000 in
theorem rest_false (w : World) (b : Nat) (rv : Value) (l : List Nat) (k c : Nat) (h : RdAt w b rv l k) (hkc : k ≤ c) (hc : (unpack l)[c]? = some true) (ho : ∀ i, k ≤ i → i < c → (unpack l)[i]? = some false) :
    Calls Tryz.prog 26 #[.pointer (some ⟨b, 0, none⟩)] w fun e w' => e = .returned (.bool false) ∧ w = w' := by
  have HR : Hid (RdAt w b rv l k) := h
  have HO : Hid (∀ i, k ≤ i → i < c → (unpack l)[i]? = some false) := ho
  have HC : Hid ((unpack l)[c]? = some true) := hc
  have hlt : c < 8 * l.length := by have := (List.getElem?_eq_some_iff.1 hc).1; simpa using this
  have hb0 : w.cell? ⟨b, 0, none⟩ = some rv := by simp [World.cell?, h.box]
  have hb1 : w.cell? ⟨b, 1, none⟩ = some (.int .i64 (k : Int)) := by simp [World.cell?, h.box]
  have hsm : l.length ≤ 4398046511104 := h.small
  have hrv : ∃ ao cap, rv = .slice ao l.length cap := by obtain ⟨ao, cap, e, _⟩ := h.row; exact ⟨ao, cap, e⟩
  obtain ⟨ao, cap, rfl⟩ := hrv
  clear h ho hc
  go_enter Tryz.func26, Tryz.ntmps26
  go_wp2
  go_loop [3] (fun i => ∃ j : Nat, k ≤ j ∧ j ≤ c ∧ i = .int .i64 j) (fun i => c - (intOf i).toNat)
  case atStart => exact ⟨k, Nat.le_refl _, hkc, rfl⟩
  case round =>
    obtain ⟨j, hj, hj2, rfl⟩ := hrel
    have hjl : (j : Int) < 8 * (l.length : Int) := by omega
    by_cases hjc : j < c
    · go_wp2_with (go_at_call 42; refine (digit_at _ b _ l k HR.out j false (HO.out j hj hjc) _ rfl).mono ?_; rintro e w2 ⟨rfl, rfl⟩)
      go_round
      case rel => exact ⟨j + 1, by omega, by omega, by go_num⟩
      case measure => simp [intOf]; omega
    · have e : j = c := by omega
      subst e
      go_wp2_with (go_at_call 42; refine (digit_at _ b _ l k HR.out j true HC.out _ rfl).mono ?_; rintro e w2 ⟨rfl, rfl⟩)
      go_ret
      exact ⟨rfl, rfl⟩

end Go.Proofs.YtejgkgnocgplbabGreat

/- A slice of bytes that came in, as the walks want it; Cut. -/
namespace Go.Proofs.YtejgkgnocgplbabGreat
set_option linter.unusedVariables false
set_option linter.unusedSimpArgs false
open Go.RowKit Dg

/-- A slice of integers that came in: it is nil; or it leads to a row of 'cap' cells, the numbers 'zs' (the first 'len' are its elements, the rest its spare room), each fitting its kind. -/
def IsRow (k : IntKind) (w : World) (a : Option Addr) (len cap : Nat) (zs : List Int) : Prop :=
  (a = none ∧ len = 0 ∧ cap = 0 ∧ zs = []) ∨
  ∃ x, a = some x ∧ len ≤ cap ∧ cap ≤ maxLen ∧ zs.length = cap ∧ (∀ i, i < zs.length → w.cell? (x.add i) = some (.int k (zs.getD i 0))) ∧ ∀ n ∈ zs, (Lit.int k n).wf = true

theorem spot_of_cell {w : World} {a : Addr} {v : Value} (h : w.cell? a = some v) : a.spot = none := by
  unfold World.cell? at h
  split at h
  · split at h
    · cases h
    · rename_i hs; simpa using hs
  · cases h

theorem wf_u8 {x : Int} (h : (Lit.int .u8 x).wf = true) : 0 ≤ x ∧ x < 256 := by
  simp [Lit.wf, IntKind.min, IntKind.max, IntKind.signed, IntKind.bits] at h
  omega

/-- Its bytes. -/
theorem IsRow.bytes {w : World} {a : Option Addr} {len cap : Nat} {zs : List Int} (h : IsRow .u8 w a len cap zs) :
    ∃ l : List Nat, l.length = len ∧ (∀ x ∈ l, x < 256) ∧ ∀ n, n ≤ len → SlAt w (.slice a n cap) (l.take n) := by
  rcases h with ⟨rfl, rfl, rfl, rfl⟩ | ⟨x, rfl, hle, hm, hz, hc, hwf⟩
  · exact ⟨[], rfl, fun x hx => by simp at hx, fun n hn => by have : n = 0 := by omega
                                                              subst this; exact SlAt.nil w⟩
  · refine ⟨(zs.take len).map Int.toNat, by simp; omega, ?_, ?_⟩
    · intro y hy
      simp only [List.mem_map] at hy
      obtain ⟨z, hz1, rfl⟩ := hy
      have := wf_u8 (hwf z (List.mem_of_mem_take hz1))
      omega
    · intro n hn
      refine ⟨some x, cap, by simp; omega, fun j y hy => ?_⟩
      have hj : j < n := by have := (List.getElem?_eq_some_iff.1 hy).1; simp at this; omega
      have hj2 : j < zs.length := by omega
      have hcell := hc j hj2
      have hsp := spot_of_cell (hc 0 (by omega))
      have hx : x = ⟨x.block, x.off, none⟩ := by
        obtain ⟨b, o, s⟩ := x
        cases s with
        | none => rfl
        | some s => simp [Addr.add] at hsp
      refine ⟨x.block, x.off, by rw [← hx], ?_⟩
      rw [hx] at hcell
      have hadd : (⟨x.block, x.off, none⟩ : Addr).add j = ⟨x.block, x.off + j, none⟩ := by simp [Addr.add]
      rw [hadd] at hcell
      have hyv : y = (zs.getD j 0).toNat := by
        simp [List.getElem?_take, hj, hj2, show j < len by omega] at hy
        simp [List.getD, hj2, hy]
      have hw := wf_u8 (hwf (zs.getD j 0) (by simp [List.getD, hj2]))
      rw [hyv, hcell]
      congr 2
      omega

end Go.Proofs.YtejgkgnocgplbabGreat

/- The end of a law's row: nothing that was there has turned. -/
namespace Go.Proofs.YtejgkgnocgplbabGreat
set_option linter.unusedVariables false
set_option linter.unusedSimpArgs false
open Go.ChangeShapes Go.WideShapes Go.ChangeAt Go.RowKit

theorem Tryz.own : ownKnob Tryz.prog.godebug = none := by kernel_rfl
theorem Tryz.laidOut : laidOutB Tryz.prog = true := by kernel_rfl

theorem post_below {H : Type} {enc : TypeId × Value → H} {P : Program} {f : Func} {s : ChangeSpec} {W W' : World} {args : Array Value} {v : Value} {ds gs : List (DataW H)} {before pa pv : List MemPlace}
    (hW : DataW.Whole enc P f.params.toList s.vars false W args.toList ds gs before)
    (hres : ∀ (b : Nat) (sp : Nat → Bool) (hd : Bool), DataW.TrodAll enc P W' b sp hd f.resultTypes.toList (v.resultList f.resultTypes.size) (s.fn H (ds ++ gs)).results [])
    (hargs : DataW.TrodAll enc P W' 0 (fun b => decide (b < W.heap.size)) true f.params.toList args.toList (s.fn H (ds ++ gs)).args pa)
    (hvars : DataW.TrodVars enc P W' (fun b => decide (b < W.heap.size)) s.vars (s.fn H (ds ++ gs)).vars pv)
    (hk : Below W.heap.size W W') :
    s.post enc P f false true false false W args v W' :=
  ⟨ds, gs, before, [], pa, pv, hW, hres _ _ _, hargs, hvars, hk.frame _, fun h => by cases h⟩

theorem wf_i64 {x : Int} (h : (Lit.int .i64 x).wf = true) : -9223372036854775808 ≤ x ∧ x ≤ 9223372036854775807 := by
  simp [Lit.wf, IntKind.min, IntKind.max, IntKind.signed, IntKind.bits] at h
  omega

end Go.Proofs.YtejgkgnocgplbabGreat

/- A slice of calls that came in, as the walks want it. -/
namespace Go.Proofs.YtejgkgnocgplbabGreat
set_option linter.unusedVariables false
set_option linter.unusedSimpArgs false
open Go.ChangeShapes Go.WideShapes Go.ChangeAt Go.RowKit Go.Deep

theorem Tryz.cells3 : Tryz.prog.cellsOf 3 = 1 := by kernel_rfl

/-- An int. -/
def I64 (x : Int) : Prop := -9223372036854775808 ≤ x ∧ x ≤ 9223372036854775807

/-- Calls that can be read: what is in the three fields of each. -/
def ActsAt (w : World) (a : Option Addr) (len : Nat) (f : Nat → Int × Int × Int) : Prop :=
  ∀ i, i < len → ∃ b off, a = some ⟨b, off, none⟩ ∧ b < w.heap.size ∧ w.cell? ⟨b, off + i * 3, none⟩ = some (.int .i64 (f i).1) ∧ w.cell? ⟨b, off + i * 3 + 1, none⟩ = some (.int .i64 (f i).2.1) ∧ w.cell? ⟨b, off + i * 3 + 2, none⟩ = some (.int .i64 (f i).2.2) ∧
    I64 (f i).1 ∧ I64 (f i).2.1 ∧ I64 (f i).2.2

theorem ActsAt.below {w w' : World} {a : Option Addr} {len : Nat} {f : Nat → Int × Int × Int} (h : ActsAt w a len f) (hb : Below w.heap.size w w') : ActsAt w' a len f := by
  intro i hi
  obtain ⟨b, off, e, hl, h0, h1, h2, r⟩ := h i hi
  exact ⟨b, off, e, Nat.lt_of_lt_of_le hl hb.size, by rw [hb.cell (p := ⟨b, _, none⟩) hl]; exact h0, by rw [hb.cell (p := ⟨b, _, none⟩) hl]; exact h1, by rw [hb.cell (p := ⟨b, _, none⟩) hl]; exact h2, r⟩

theorem cells3_of {w : World} {base : Nat} {a : Addr} {cs : List Value} (h : w.cells? base a 3 = some cs) : ∃ x y z, cs = [x, y, z] ∧ w.cell? a = some x ∧ w.cell? (a.add 1) = some y ∧ w.cell? (a.add 2) = some z := by
  unfold World.cells? at h
  split at h
  · have e : List.range 3 = [0, 1, 2] := by decide
    rw [e] at h
    simp only [List.mapM_cons, List.mapM_nil, Option.bind_eq_bind, Option.pure_def] at h
    have e0 : a.add 0 = a := by simp [Addr.add]
    rw [e0] at h
    cases h0 : w.cell? a with
    | none => simp [h0] at h
    | some x =>
      cases h1 : w.cell? (a.add 1) with
      | none => simp [h0, h1] at h
      | some y =>
        cases h2 : w.cell? (a.add 2) with
        | none => simp [h0, h1, h2] at h
        | some z =>
          simp [h0, h1, h2] at h
          exact ⟨x, y, z, h.symm, rfl, rfl, rfl⟩
  · cases h

theorem open_bytes {H : Type} {enc : TypeId × Value → H} {W : World} {a : Option Addr} {len cap : Nat} {d : DataW H} {p : List MemPlace}
    (h : DataW.Trod enc Tryz.prog W 0 (fun _ => true) true 28 (.slice a len cap) d p) : ∃ zs, IsRow .u8 W a len cap zs := by
  obtain ⟨fuel, hf⟩ := h
  rcases open_ints Tryz.underlying28 Tryz.underlying5 (by kernel_rfl) hf with ⟨hcs, _⟩ | ⟨x, l, c, zs, hcs, _, hl, hm, hz, _, hcell, hwz⟩
  · simp [Value.cells] at hcs
    obtain ⟨rfl, rfl, rfl⟩ := hcs
    exact ⟨[], .inl ⟨rfl, rfl, rfl, rfl⟩⟩
  · simp [Value.cells] at hcs
    obtain ⟨rfl, rfl, rfl⟩ := hcs
    exact ⟨zs, .inr ⟨_, rfl, hl, hm, by simpa using hz, hcell, hwz⟩⟩

end Go.Proofs.YtejgkgnocgplbabGreat

/- Numbers in a row that can be read; rows of numbers of the call's own; Copy and Cut of numbers. -/
namespace Go.Proofs.YtejgkgnocgplbabGreat
set_option linter.unusedVariables false
set_option linter.unusedSimpArgs false
open Go.RowKit Dg

/-- Numbers that can be read. -/
def IntsAt (w : World) (a : Option Addr) (l : List Int) : Prop :=
  ∀ j x, l[j]? = some x → ∃ b off, a = some ⟨b, off, none⟩ ∧ w.cell? ⟨b, off + j, none⟩ = some (.int .i64 x)
theorem IntsAt.below {w w' : World} {a : Option Addr} {l : List Int} {B : Nat} (h : IntsAt w a l) (hb : Below B w w') (hB : ∀ x, a = some x → x.block < B) : IntsAt w' a l := by
  intro j x hx
  obtain ⟨b, off, rfl, hc⟩ := h j x hx
  refine ⟨b, off, rfl, ?_⟩
  rw [hb.cell (p := ⟨b, off + j, none⟩) (hB ⟨b, off, none⟩ rfl)]
  exact hc
theorem IntsAt.kept {w w' : World} {a : Option Addr} {l : List Int} {F : Nat → Prop} (h : IntsAt w a l) (hk : Kept F w w') (hF : ∀ x, a = some x → ¬ F x.block) : IntsAt w' a l := by
  intro j x hx
  obtain ⟨b, off, rfl, hc⟩ := h j x hx
  refine ⟨b, off, rfl, ?_⟩
  rw [hk.cell (World.block_lt_of_cell? w _ hc) (hF ⟨b, off, none⟩ rfl)]
  exact hc
theorem IntsAt.take {w : World} {a : Option Addr} {l : List Int} (h : IntsAt w a l) (n : Nat) : IntsAt w a (l.take n) := by
  intro j x hx
  refine h j x ?_
  rw [List.getElem?_take] at hx
  split at hx
  · exact hx
  · cases hx
theorem IntsAt.nil (w : World) (a : Option Addr) : IntsAt w a [] := fun j x hx => by simp at hx
/-- Numbers as values. -/
def i64s (l : List Int) : List Value := l.map fun x : Int => Value.int .i64 x
@[simp] theorem length_i64s (l : List Int) : (i64s l).length = l.length := by simp [i64s]
theorem i64s_get (l : List Int) (k : Nat) : (i64s l)[k]? = l[k]?.map fun x : Int => Value.int .i64 x := by simp [i64s]
theorem IntsAt.of_owns {w : World} {base : Nat} {a : Option Addr} {n m cap : Nat} {l : List Int} (h : w.ownsRow base 3 1 (.slice a m cap) n (i64s l)) : IntsAt w a l := by
  have hl : l.length = n := by have := h.1; simpa using this
  rcases h.2 with ⟨e, rfl⟩ | ⟨g, cap, cur, e, hb, hh, hn, _, hcs, htake⟩
  · have : l = [] := List.eq_nil_of_length_eq_zero hl
    subst this
    exact IntsAt.nil w a
  · cases e
    intro j x hx
    refine ⟨g, 0, rfl, ?_⟩
    have hj : j < l.length := (List.getElem?_eq_some_iff.1 hx).1
    have e : (i64s l)[j]? = some (.int .i64 x) := by rw [i64s_get, hx]; rfl
    rw [← htake, List.getElem?_take, if_pos (by omega)] at e
    simp only [World.cell?, hh]
    simpa using e
/-- The numbers of a slice that came in. -/
theorem IsRow.ints {w : World} {a : Option Addr} {len cap : Nat} {zs : List Int} (h : IsRow .i64 w a len cap zs) :
    ∃ l : List Int, l.length = len ∧ (∀ x ∈ l, I64 x) ∧ IntsAt w a l ∧ len ≤ cap ∧ cap ≤ maxLen ∧ (a = none → len = 0 ∧ cap = 0) ∧ ∀ x, a = some x → 0 < len → x.block < w.heap.size := by
  rcases h with ⟨rfl, rfl, rfl, rfl⟩ | ⟨x, rfl, hle, hm, hz, hc, hwf⟩
  · exact ⟨[], rfl, fun x hx => by simp at hx, IntsAt.nil w _, Nat.le_refl _, by decide, fun _ => ⟨rfl, rfl⟩, fun x hx => by cases hx⟩
  · have hsp : 0 < zs.length → x.spot = none := fun h0 => by
      have := spot_of_cell (hc 0 h0)
      simpa [Addr.add] using this
    refine ⟨zs.take len, by simp; omega, fun y hy => wf_i64 (hwf y (List.mem_of_mem_take hy)), ?_, hle, hm, (fun e => by cases e), ?_⟩
    · intro j y hy
      have hj : j < (zs.take len).length := (List.getElem?_eq_some_iff.1 hy).1
      simp at hj
      have hj2 : j < zs.length := by omega
      obtain ⟨b, off, s⟩ := x
      have hs := hsp (by omega)
      simp at hs
      subst hs
      refine ⟨b, off, rfl, ?_⟩
      have hcell := hc j hj2
      have hadd : (⟨b, off, none⟩ : Addr).add j = ⟨b, off + j, none⟩ := by simp [Addr.add]
      rw [hadd] at hcell
      rw [hcell]
      rw [List.getElem?_take, if_pos (by omega)] at hy
      simp [List.getD, hy]
    · intro y hy h0
      cases hy
      have hcell := hc 0 (by omega)
      exact World.block_lt_of_cell? w _ hcell
theorem Tryz.info3 : (Tryz.prog.info? 3).map (fun i => (i.zero, i.size, i.bytes)) = some (some (.int .i64 0), 1, 8) := by kernel_rfl
/-- A row of numbers of the call's own. -/
def OwnInts (w : World) (base : Nat) (v : Value) (l : List Int) : Prop := w.ownsRow base 3 1 v l.length (i64s l)
theorem OwnInts.nil (w : World) (base : Nat) : OwnInts w base (.slice none 0 0) [] := World.ownsRow_nil _ _ _ _
theorem OwnInts.slice {w : World} {base : Nat} {v : Value} {l : List Int} (h : OwnInts w base v l) : ∃ a cap, v = .slice a l.length cap ∧ IntsAt w a l ∧ (a = none ∧ l = [] ∧ cap = 0 ∨ ∃ g, a = some ⟨g, 0, none⟩ ∧ base ≤ g ∧ g < w.heap.size) := by
  have h' := h
  rcases h.2 with ⟨rfl, hn⟩ | ⟨g, cap, cur, rfl, hb, hh, hn, _, hcs, htake⟩
  · have : l = [] := List.eq_nil_of_length_eq_zero hn
    subst this
    exact ⟨none, 0, rfl, IntsAt.nil w _, .inl ⟨rfl, rfl, rfl⟩⟩
  · exact ⟨some ⟨g, 0, none⟩, cap, rfl, IntsAt.of_owns h, .inr ⟨g, rfl, hb, (Array.getElem?_eq_some_iff.1 hh).1⟩⟩
theorem OwnInts.below {w w' : World} {base B : Nat} {v : Value} {l : List Int} (h : OwnInts w base v l) (hb : Below B w w') (hB : ∀ k, v.ownBlock = some k → k < B) : OwnInts w' base v l := by
  refine ⟨h.1, ?_⟩
  rcases h.2 with hn | ⟨g, cap, cur, rfl, hg, hh, r⟩
  · exact .inl hn
  · exact .inr ⟨g, cap, cur, rfl, hg, by rw [hb.block g (hB g rfl)]; exact hh, r⟩
/-- 'append(z, n)' of one number that was just built. -/
theorem wpList_append_int {P : Program} (w0 : World) {ops : Array Oper} {rest : List Oper} {o : Oper} {a : Act} {Q : Exit → Act → World → Prop}
    (hgd : o.guard = none) (s x : Operand) (t : TypeId) (ho : o.op = .call { callee := .builtin .append, args := #[s, x], argTypes := #[t, t] })
    (base : Nat) (i : TypeInfo) (ht : P.underlying t = some (.slice 3)) (hi : P.info? 3 = some i) (hz : i.zero = some (.int .i64 0)) (hsize : i.size = 1) (hby : i.bytes = 8)
    (v : Value) (l : List Int) (hs : a.eval s = v) (hown : OwnInts w0 base v l) (y : Int) (hx : a.eval x = .slice (some ⟨w0.heap.size, 0, none⟩) 1 1)
    (hl : l.length ≤ 1000000) (hbase : base ≤ w0.heap.size)
    (h : ∀ v' w', Hid (OwnInts w' base v' (l ++ [y])) → Hid (Below base w0 w') → wpList P ops Q rest (a.put o.dst v') w') : wpList P ops Q (o :: rest) a (w0.alloc (.cells #[.int .i64 y] 3)) := by
  refine wpList_append_mine _ hgd s x t ho base 3 i (.int .i64 0) 1 8 ht hi hz hsize hby rfl (by decide) v l.length (i64s l) hs (World.ownsRow.alloc hown _) ⟨w0.heap.size, 0, none⟩ 1 1 [.int .i64 y] hx rfl ?c1 ?c2 (by decide) ?b1 ?b2 ?b3 ?_
  case c1 => intro j u hj; match j, hj with | 0, hj => simp at hj; subst hj; simp [Addr.add]
  case c2 => intro u hu; simp at hu; subst hu; rfl
  case b1 => unfold maxLen; omega
  case b2 => omega
  case b3 => simp; omega
  intro g cap w' H1 HG HN
  refine h _ w' ?_ ?_
  · show World.ownsRow _ _ _ _ _ _ _
    have := H1.out
    simpa [i64s] using this
  · exact ((Below.refl base w0).alloc hbase _).grown HG.out (by simp; omega) (fun k hk => (World.ownsRow.lt hown k hk).1)
end Go.Proofs.YtejgkgnocgplbabGreat

/- Numbers once more: Same at like numbers; appends to a row of numbers of the call's own, told more closely; parts of such rows. -/
namespace Go.Proofs.YtejgkgnocgplbabGreat
set_option linter.unusedVariables false
set_option linter.unusedSimpArgs false
open Go.RowKit Dg

theorem hid_of {p : Prop} (h : p) : Hid p := h
theorem take_next (zs : List Int) (j : Nat) (y : Int) (h : zs[j]? = some y) : zs.take (j + 1) = zs.take j ++ [y] := by rw [List.take_add_one, h]; rfl
theorem OwnInts.at {w : World} {base n cap : Nat} {a : Option Addr} {l : List Int} (h : OwnInts w base (.slice a n cap) l) : IntsAt w a l := IntsAt.of_owns h
theorem own_lt {w : World} {base n cap : Nat} {a : Option Addr} {l : List Int} (h : OwnInts w base (.slice a n cap) l) : ∀ x, a = some x → x.block < w.heap.size := by
  intro x hx
  subst hx
  exact (World.ownsRow.lt h x.block rfl).2

/-- 'append(z, n)' of one number that was just built: all but its row is as it was. -/
theorem wpList_append_int_mine {P : Program} (w0 : World) {ops : Array Oper} {rest : List Oper} {o : Oper} {a : Act} {Q : Exit → Act → World → Prop}
    (hgd : o.guard = none) (s x : Operand) (t : TypeId) (ho : o.op = .call { callee := .builtin .append, args := #[s, x], argTypes := #[t, t] })
    (base : Nat) (i : TypeInfo) (ht : P.underlying t = some (.slice 3)) (hi : P.info? 3 = some i) (hz : i.zero = some (.int .i64 0)) (hsize : i.size = 1) (hby : i.bytes = 8)
    (v : Value) (l : List Int) (hs : a.eval s = v) (hown : OwnInts w0 base v l) (y : Int) (hx : a.eval x = .slice (some ⟨w0.heap.size, 0, none⟩) 1 1)
    (hl : l.length ≤ 1000000) (hbase : base ≤ w0.heap.size)
    (h : ∀ v' w', OwnInts w' base v' (l ++ [y]) → Kept (fun k => v.ownBlock = some k) w0 w' → (∀ k, v'.ownBlock = some k → v.ownBlock = some k ∨ w0.heap.size ≤ k) → wpList P ops Q rest (a.put o.dst v') w') : wpList P ops Q (o :: rest) a (w0.alloc (.cells #[.int .i64 y] 3)) := by
  refine wpList_append_mine _ hgd s x t ho base 3 i (.int .i64 0) 1 8 ht hi hz hsize hby rfl (by decide) v l.length (i64s l) hs (World.ownsRow.alloc hown _) ⟨w0.heap.size, 0, none⟩ 1 1 [.int .i64 y] hx rfl ?c1 ?c2 (by decide) ?b1 ?b2 ?b3 ?_
  case c1 => intro j u hj; match j, hj with | 0, hj => simp at hj; subst hj; simp [Addr.add]
  case c2 => intro u hu; simp at hu; subst hu; rfl
  case b1 => unfold maxLen; omega
  case b2 => omega
  case b3 => simp; omega
  intro g cap w' H1 HG HN
  refine h _ w' ?_ ((Kept.alloc _ w0 _).trans (Kept.grown HG.out)) ?_
  · show World.ownsRow _ _ _ _ _ _ _
    have := H1.out
    simpa [i64s] using this
  · intro k hk
    simp [Value.ownBlock] at hk
    subst hk
    rcases HN.out with h2 | h2
    · exact .inl h2
    · simp at h2
      exact .inr (by omega)

/-- 'append(z, n)' of one number that was just built, its outcome named. -/
theorem wpList_append_int_as {P : Program} (w0 : World) {ops : Array Oper} {rest : List Oper} {o : Oper} {a : Act} {Q : Exit → Act → World → Prop}
    (hgd : o.guard = none) (s x : Operand) (t : TypeId) (ho : o.op = .call { callee := .builtin .append, args := #[s, x], argTypes := #[t, t] })
    (base : Nat) (i : TypeInfo) (ht : P.underlying t = some (.slice 3)) (hi : P.info? 3 = some i) (hz : i.zero = some (.int .i64 0)) (hsize : i.size = 1) (hby : i.bytes = 8)
    (v : Value) (l us : List Int) (hs : a.eval s = v) (hown : OwnInts w0 base v l) (y : Int) (hus : us = l ++ [y]) (hx : a.eval x = .slice (some ⟨w0.heap.size, 0, none⟩) 1 1)
    (hl : l.length ≤ 1000000) (hbase : base ≤ w0.heap.size)
    (h : ∀ ya yc w', Hid (OwnInts w' base (.slice ya us.length yc) us) → Hid (IntsAt w' ya us) → Hid (Below base w0 w') → wpList P ops Q rest (a.put o.dst (.slice ya us.length yc)) w') : wpList P ops Q (o :: rest) a (w0.alloc (.cells #[.int .i64 y] 3)) := by
  refine wpList_append_int w0 hgd s x t ho base i ht hi hz hsize hby v l hs hown y hx hl hbase ?_
  intro v' w' h1 h2
  rw [← hus] at h1
  obtain ⟨ya, yc, rfl, hy, _⟩ := h1.out.slice
  exact h ya yc w' h1 hy h2

/-- Numbers that can be read, and their room. -/
structure Ns (w : World) (a : Option Addr) (cap : Nat) (l : List Int) : Prop where
  at_ : IntsAt w a l
  le : l.length ≤ cap
  nil : a = none → cap = 0
theorem IntsAt.mono {w w' : World} {a : Option Addr} {l : List Int} (h : IntsAt w a l) (hb : Below w.heap.size w w') : IntsAt w' a l := by
  intro j x hx
  obtain ⟨b, off, rfl, hc⟩ := h j x hx
  refine ⟨b, off, rfl, ?_⟩
  rw [hb.cell (p := ⟨b, off + j, none⟩) (World.block_lt_of_cell? w _ hc)]
  exact hc
theorem Ns.mono {w w' : World} {a : Option Addr} {cap : Nat} {l : List Int} (h : Ns w a cap l) (hb : Below w.heap.size w w') : Ns w' a cap l := ⟨h.at_.mono hb, h.le, h.nil⟩
theorem IntsAt.drewN {w : World} {a : Option Addr} {l : List Int} (h : IntsAt w a l) (n : Nat) : IntsAt (w.drewN n) a l := h
theorem Ns.drewN {w : World} {a : Option Addr} {cap : Nat} {l : List Int} (h : Ns w a cap l) (n : Nat) : Ns (w.drewN n) a cap l := ⟨h.at_.drewN n, h.le, h.nil⟩
theorem OwnInts.mono {w w' : World} {base : Nat} {v : Value} {l : List Int} (h : OwnInts w base v l) (hb : Below w.heap.size w w') : OwnInts w' base v l := h.below hb (fun k hk => (World.ownsRow.lt h k hk).2)
theorem OwnInts.base {w : World} {base base' : Nat} {v : Value} {l : List Int} (h : OwnInts w base v l) (hb : base' ≤ base) : OwnInts w base' v l := ownsRow_base h hb
theorem OwnInts.drewN {w : World} {base : Nat} {v : Value} {l : List Int} (h : OwnInts w base v l) (n : Nat) : OwnInts (w.drewN n) base v l := h
theorem OwnInts.ns {w : World} {base : Nat} {v : Value} {l : List Int} (h : OwnInts w base v l) : ∃ a cap, v = .slice a l.length cap ∧ Ns w a cap l ∧ (a = none ∧ l = [] ∧ cap = 0 ∨ ∃ g, a = some ⟨g, 0, none⟩) ∧ cap ≤ maxLen := by
  have h' := h
  rcases h.2 with ⟨rfl, hn⟩ | ⟨g, cap, cur, rfl, hb, hh, hn, hm, hcs, htake⟩
  · have : l = [] := List.eq_nil_of_length_eq_zero hn
    subst this
    exact ⟨none, 0, rfl, ⟨IntsAt.nil w _, Nat.le_refl _, fun _ => rfl⟩, .inl ⟨rfl, rfl, rfl⟩, by decide⟩
  · exact ⟨some ⟨g, 0, none⟩, cap, rfl, ⟨IntsAt.of_owns h, hn, fun e => by cases e⟩, .inr ⟨g, rfl⟩, hm⟩
/-- A row of numbers that was just built. -/
theorem OwnInts.lit (w : World) (base : Nat) (l : List Int) (n : Nat) (hn : l.length = n) (hb : base ≤ w.heap.size) (hl : n ≤ 1000000) (cs : Array Value) (hcs : cs.toList = i64s l) : OwnInts (w.alloc (.cells cs 3)) base (.slice (some ⟨w.heap.size, 0, none⟩) n n) l := by
  subst hn
  have hs : cs.size = l.length := by have := congrArg List.length hcs; simpa using this
  have := World.ownsRow_lit (e := 3) (size := 1) (base := base) w cs l.length hb (by unfold maxLen; omega) (by omega)
  show World.ownsRow _ _ _ _ _ _ _
  rw [← hcs]
  exact this
theorem slice_ints (a : Option Addr) (n cap k : Nat) (hk : k ≤ cap) (W : World) : (Instr.sliceAt 22 (.slice a n cap) none (some (.int .i64 (k : Int))) none).run Tryz.prog W = .ok (.slice a k cap) W := by
  obtain ⟨i0, hi, hz0, hz1, hz2⟩ := info_parts Tryz.info3
  simp [Instr.sliceAt, Instr.slice, Instr.sliceBounds, Instr.sliceBound, asIntOf, run_underlying Tryz.underlying22, sizeOf, typeInfo, hi, hk]
  cases a <;> simp [Addr.add]
theorem i64s_append (l m : List Int) : i64s (l ++ m) = i64s l ++ i64s m := by simp [i64s]
/-- 'append(s, x...)' of numbers to a row of the call's own. -/
theorem wpList_append_ints (w : World) {ops : Array Oper} {rest : List Oper} {o : Oper} {a : Act} {Q : Exit → Act → World → Prop}
    (hgd : o.guard = none) (s x : Operand) (ho : o.op = .call { callee := .builtin .append, args := #[s, x], argTypes := #[22, 22] })
    (base : Nat) (v : Value) (l : List Int) (hs : a.eval s = v) (hown : OwnInts w base v l) (xa : Option Addr) (xc : Nat) (m : List Int) (hx : a.eval x = .slice xa m.length xc) (hm : Ns w xa xc m)
    (hl : l.length + m.length ≤ 1000000) (hbase : base ≤ w.heap.size)
    (h : ∀ v' w', Hid (OwnInts w' base v' (l ++ m)) → Hid (Kept (fun k => v.ownBlock = some k) w w') → Hid (∀ k, v'.ownBlock = some k → v.ownBlock = some k ∨ w.heap.size ≤ k) → wpList Tryz.prog ops Q rest (a.put o.dst v') w') : wpList Tryz.prog ops Q (o :: rest) a w := by
  obtain ⟨i0, hi, hz0, hz1, hz2⟩ := info_parts Tryz.info3
  have hown' : w.ownsRow base 3 1 v l.length (i64s l) := hown
  cases xa with
  | none =>
    have hc := hm.nil rfl
    have hle := hm.le
    have hm0 : m = [] := List.eq_nil_of_length_eq_zero (by omega)
    subst hm0 hc
    refine wpList_append_own_none hgd s x 22 ho base 3 i0 1 Tryz.underlying22 hi v l.length (i64s l) hs hown' hx ?_
    refine h v w ?_ (Kept.refl _ _) (fun k hk => .inl hk)
    rw [List.append_nil]; exact hown
  | some ad =>
    have hcell : ∀ j u, (i64s m)[j]? = some u → w.cell? (ad.add j) = some u := by
      intro j u hu
      rw [i64s_get] at hu
      obtain ⟨y, hy, rfl⟩ := Option.map_eq_some_iff.1 hu
      obtain ⟨b, off, e, hc⟩ := hm.at_ j y hy
      cases e
      have hadd : (⟨b, off, none⟩ : Addr).add j = ⟨b, off + j, none⟩ := by simp [Addr.add]
      rw [hadd]
      exact hc
    have hone : ∀ u ∈ i64s m, u.oneCell' = true := by intro u hu; simp [i64s] at hu; obtain ⟨y, _, rfl⟩ := hu; rfl
    by_cases hne : m = []
    · subst hne
      rcases hown'.2 with ⟨hv, hn⟩ | ⟨g, cap, cur, hv, hb, hh, hn, hcm, hcs, htake⟩
      · refine wpList_append_own _ hgd s x 22 ho base 3 i0 (.int .i64 0) 1 8 Tryz.underlying22 hi hz0 hz1 hz2 rfl (by decide) v l.length (i64s l) hs hown' ad 0 xc [] hx rfl (fun j u hu => by simp at hu) (fun u hu => by simp at hu) (by unfold maxLen; omega) (by omega) hbase ?_
        intro v' w' h1 h2 h3
        have hv' : v' = .slice none 0 0 := h3.2 ⟨hv, rfl⟩
        refine h v' w' ?_ (Kept.grown h2) (fun k hk => by rw [hv'] at hk; cases hk)
        show World.ownsRow _ _ _ _ _ _ _
        simpa [i64s_append] using h1
      · refine wpList_append_fits w hgd s x 22 ho base 3 i0 1 Tryz.underlying22 hi hz1 g l.length cap (i64s l) (hs.trans hv) (hv ▸ hown') ad 0 xc [] hx rfl (fun j u hu => by simp at hu) (fun u hu => by simp at hu) (by omega) ?_
        intro w' h1 h2
        refine h _ w' ?_ ?_ (fun k hk => .inl ?_)
        · show World.ownsRow _ _ _ _ _ _ _
          simpa [i64s_append] using h1
        · have := Kept.grown h2
          rw [hv]; exact this
        · rw [hv]; exact hk
    · refine wpList_append_mine _ hgd s x 22 ho base 3 i0 (.int .i64 0) 1 8 Tryz.underlying22 hi hz0 hz1 hz2 rfl (by decide) v l.length (i64s l) hs hown' ad m.length xc (i64s m) hx (by simp) hcell hone (List.length_pos_iff.2 hne) (by unfold maxLen; omega) (by omega) hbase ?_
      intro g cap w' h1 h2 h3
      refine h _ w' ?_ (Kept.grown h2.out) (fun k hk => ?_)
      · show World.ownsRow _ _ _ _ _ _ _
        rw [i64s_append, List.length_append]; exact h1.out
      · simp [Value.ownBlock] at hk
        subst hk
        exact h3.out

/-- 'append(z, n)' of one number that was just built, as one step of a region that draws its order. -/
theorem step_append_int {P : Program} {ops : Array Oper} {o : Oper} {a : Act} (w0 : World) {K : Act → World → Prop} {Q : Exit → Act → World → Prop} {E : Prop}
    (hgd : o.guard = none) (s x : Operand) (t : TypeId) (ho : o.op = .call { callee := .builtin .append, args := #[s, x], argTypes := #[t, t] })
    (base : Nat) (i : TypeInfo) (ht : P.underlying t = some (.slice 3)) (hi : P.info? 3 = some i) (hz : i.zero = some (.int .i64 0)) (hsize : i.size = 1) (hby : i.bytes = 8)
    (v : Value) (l : List Int) (hs : a.eval s = v) (hown : OwnInts w0 base v l) (y : Int) (hx : a.eval x = .slice (some ⟨w0.heap.size, 0, none⟩) 1 1)
    (hl : l.length ≤ 1000000) (hbase : base ≤ w0.heap.size)
    (hK : ∀ v' w', Hid (OwnInts w' base v' (l ++ [y])) → Hid (Below base w0 w') → K (a.put o.dst v') w') :
    if Region.wanted o (yielded ops a.tmps) = true then Oper.wp P o a (w0.alloc (.cells #[.int .i64 y] 3)) K Q else E := by
  have hw : Region.wanted o (yielded ops a.tmps) = true := by simp [Region.wanted, hgd]
  rw [if_pos hw]
  obtain ⟨v', w', hrun, r1, r2, r3⟩ := run_append_own (P := P) (w0.alloc (.cells #[.int .i64 y] 3)) base t o.type 3 i (.int .i64 0) 1 8 ht hi hz hsize hby rfl (by decide) v l.length (i64s l) (World.ownsRow.alloc hown _) ⟨w0.heap.size, 0, none⟩ 1 1 [.int .i64 y] rfl
    (by intro j u hj; match j, hj with | 0, hj => simp at hj; subst hj; simp [Addr.add]) (by intro u hu; simp at hu; subst hu; rfl) (by unfold maxLen; omega) (by omega) (by simp; omega)
  unfold Oper.wp
  simp [execOp, ho, resolve, invoke, builtin, hs, hx, hrun, Result.andThen]
  refine hK v' w' ?_ ?_
  · show World.ownsRow _ _ _ _ _ _ _
    simpa [i64s] using r1
  · exact ((Below.refl base w0).alloc hbase _).grown r2 (by simp; omega) (fun k hk => (World.ownsRow.lt hown k hk).1)

end Go.Proofs.YtejgkgnocgplbabGreat

/- Predictors over lists of numbers: coefficients, guesses, what is left, what is restored; no program. -/
namespace Go.Proofs.YtejgkgnocgplbabGreat
set_option linter.unusedVariables false
set_option linter.unusedSimpArgs false
open Go.RowKit Dg

/-- A sample that may be. -/
def isS (x : Int) : Prop := -8388608 ≤ x ∧ x ≤ 8388607
instance (x : Int) : Decidable (isS x) := by unfold isS; infer_instance
def allS (l : List Int) : Prop := ∀ x ∈ l, isS x
instance (l : List Int) : Decidable (allS l) := by unfold allS; infer_instance
theorem allS.take {l : List Int} (h : allS l) (n : Nat) : allS (l.take n) := fun x hx => h x (List.mem_of_mem_take hx)
theorem allS.snoc {l : List Int} (h : allS l) {x : Int} (hx : isS x) : allS (l ++ [x]) := by
  intro y hy
  rcases List.mem_append.1 hy with h1 | h1
  · exact h y h1
  · simp at h1; subst h1; exact hx
theorem getD_of {l : List Int} {k : Nat} {x : Int} (h : l[k]? = some x) : l.getD k 0 = x := by simp [List.getD, h]
theorem allS.at {l : List Int} (h : allS l) {k : Nat} (hk : k < l.length) : isS (l.getD k 0) := by
  have e : l[k]? = some l[k] := by simp [hk]
  rw [getD_of e]
  exact h _ (List.getElem_mem hk)
/-- The fixed predictors' coefficients. -/
def coefs (o : Int) : List Int := if o = 1 then [1] else if o = 2 then [2, -1] else if o = 3 then [3, -3, 1] else if o = 4 then [4, -6, 4, -1] else []
theorem coefs_of {o : Int} (h : o = 0 ∨ o = 1 ∨ o = 2 ∨ o = 3 ∨ o = 4) : (coefs o).length = o.toNat ∧ ∀ c ∈ coefs o, -6 ≤ c ∧ c ≤ 6 := by
  rcases h with rfl | rfl | rfl | rfl | rfl <;> simp [coefs]
theorem coefs_ge (o : Int) (h0 : 0 ≤ o) (h4 : o ≤ 4) : ((coefs o).length : Int) = o ∧ ∀ c ∈ coefs o, -6 ≤ c ∧ c ≤ 6 := by
  have h := coefs_of (o := o) (by omega)
  exact ⟨by have := h.1; omega, h.2⟩
theorem coefs_le (o : Int) : (coefs o).length ≤ 4 := by
  unfold coefs
  split
  · simp
  split
  · simp
  split
  · simp
  split <;> simp
/-- The first terms of a guess: each coefficient with the number that lies so far ahead. -/
def gsum (past cs : List Int) : Nat → Int
  | 0 => 0
  | k + 1 => gsum past cs k + cs.getD k 0 * past.getD (past.length - 1 - k) 0
def guessZ (past cs : List Int) : Int := gsum past cs cs.length
theorem mul_small {c x : Int} (hc : -6 ≤ c ∧ c ≤ 6) (hx : isS x) : -50331648 ≤ c * x ∧ c * x ≤ 50331648 := by
  unfold isS at hx
  rcases (by omega : c = -6 ∨ c = -5 ∨ c = -4 ∨ c = -3 ∨ c = -2 ∨ c = -1 ∨ c = 0 ∨ c = 1 ∨ c = 2 ∨ c = 3 ∨ c = 4 ∨ c = 5 ∨ c = 6) with rfl | rfl | rfl | rfl | rfl | rfl | rfl | rfl | rfl | rfl | rfl | rfl | rfl <;> omega
theorem gsum_small {past cs : List Int} (hS : allS past) (hC : ∀ c ∈ cs, -6 ≤ c ∧ c ≤ 6) (hl : cs.length ≤ past.length) (k : Nat) (hk : k ≤ cs.length) : -50331648 * (k : Int) ≤ gsum past cs k ∧ gsum past cs k ≤ 50331648 * (k : Int) := by
  induction k with
  | zero => simp [gsum]
  | succ k ih =>
    have ih := ih (by omega)
    have hk' : k < cs.length := by omega
    have e : cs[k]? = some cs[k] := by simp [hk']
    have h1 := mul_small (hC cs[k] (List.getElem_mem hk')) (hS.at (k := past.length - 1 - k) (by omega))
    simp only [gsum]
    rw [getD_of e]
    omega
theorem guess_small {past cs : List Int} (hS : allS past) (hC : ∀ c ∈ cs, -6 ≤ c ∧ c ≤ 6) (hl : cs.length ≤ past.length) (h4 : cs.length ≤ 4) : -201326592 ≤ guessZ past cs ∧ guessZ past cs ≤ 201326592 := by
  have := gsum_small hS hC hl cs.length (Nat.le_refl _)
  unfold guessZ
  omega
/-- What the predictor of an order leaves. -/
def residZ (l : List Int) (o : Nat) : List Int := (List.range (l.length - o)).map fun j => l.getD (o + j) 0 - guessZ (l.take (o + j)) (coefs (o : Int))
@[simp] theorem length_residZ (l : List Int) (o : Nat) : (residZ l o).length = l.length - o := by simp [residZ]
theorem residZ_get (l : List Int) (o i : Nat) (ho : o ≤ i) (hi : i < l.length) : (residZ l o)[i - o]? = some (l.getD i 0 - guessZ (l.take i) (coefs (o : Int))) := by
  unfold residZ
  rw [List.getElem?_map, List.getElem?_range (by omega)]
  simp only [Option.map_some]
  rw [show o + (i - o) = i by omega]
theorem residZ_next (l : List Int) (o i : Nat) (ho : o ≤ i) (hi : i < l.length) (y : Int) (hy : y = l.getD i 0 - guessZ (l.take i) (coefs (o : Int))) : (residZ l o).take (i + 1 - o) = (residZ l o).take (i - o) ++ [y] := by
  rw [show i + 1 - o = i - o + 1 by omega]
  exact take_next _ _ _ (by rw [hy]; exact residZ_get l o i ho hi)
/-- What Residual answers: the numbers, and how it ends. -/
def resOut (l : List Int) (o : Int) : List Int × Int :=
  if o < 0 ∨ 4 < o ∨ (l.length : Int) < o then ([], 1) else if allS l then (if 64 < l.length then ([], 4) else (residZ l o.toNat, 0)) else ([], 8)
/-- The samples that have these residuals, behind what is there; none: a sample that may not be. -/
def restZ (cs : List Int) : List Int → List Int → Option (List Int)
  | x, [] => some x
  | x, r :: rs => if isS (guessZ x cs + r) then restZ cs (x ++ [guessZ x cs + r]) rs else none
def restOut (warm res : List Int) : List Int × Int :=
  if 4 < warm.length then ([], 1) else if allS warm then (match restZ (coefs (warm.length : Int)) warm res with | none => ([], 8) | some x => if 64 < x.length then ([], 4) else (x, 0)) else ([], 8)
theorem restZ_good {cs x res : List Int} {j : Nat} {r : Int} (h : res[j]? = some r) (hs : isS (guessZ x cs + r)) (T : Option (List Int)) (hT : T = restZ cs x (res.drop j)) : T = restZ cs (x ++ [guessZ x cs + r]) (res.drop (j + 1)) := by
  have hj : j < res.length := (List.getElem?_eq_some_iff.1 h).1
  have e : res[j] = r := (List.getElem?_eq_some_iff.1 h).2
  rw [hT, List.drop_eq_getElem_cons hj, e]
  simp only [restZ]
  rw [if_pos hs]
theorem restZ_bad {cs x res : List Int} {j : Nat} {r : Int} (h : res[j]? = some r) (hs : ¬ isS (guessZ x cs + r)) (T : Option (List Int)) (hT : T = restZ cs x (res.drop j)) : T = none := by
  have hj : j < res.length := (List.getElem?_eq_some_iff.1 h).1
  have e : res[j] = r := (List.getElem?_eq_some_iff.1 h).2
  rw [hT, List.drop_eq_getElem_cons hj, e]
  simp only [restZ]
  rw [if_neg hs]
theorem restZ_end {cs x res : List Int} (T : Option (List Int)) (hT : T = restZ cs x (res.drop res.length)) : T = some x := by
  rw [hT, List.drop_length]
  rfl

end Go.Proofs.YtejgkgnocgplbabGreat
