/- Bytes; the reader: NewReader, digit, Left, Get. -/
import Derived.Test.YtlonnoapbfjomabGreatWalk4
namespace Go.Proofs.YtlonnoapbfjomabGreat
set_option linter.unusedVariables false
set_option linter.unusedSimpArgs false
open Go.RowKit Dg

/-- New bytes: where they lie, what they are; nothing old has turned. -/
def NewBytes (w w' : World) (l : List Nat) : Prop :=
  w'.ownsRow w.heap.size 5 1 (.slice (some ⟨w.heap.size, 0, none⟩) l.length l.length) l.length (u8s l) ∧ Below w.heap.size w w'

set_option maxHeartbeats 400000 in
theorem bytes_any (w : World) (b : Nat) (rv : Value) (ds : List Bool) (l : List Nat) (hl : l = pack ds) (h : WrAt w b rv ds) (hlt : ds.length < 4398046511104) :
    Calls Tryz.prog 29 #[.pointer (some ⟨b, 0, none⟩)] w fun e w' => e = .returned (.slice (some ⟨w.heap.size, 0, none⟩) l.length l.length) ∧ NewBytes w w' l := by
  have hb0 : w.cell? ⟨b, 0, none⟩ = some rv := by simp [World.cell?, h.box]
  have HS : Hid (SlAt w rv l) := by rw [hl]; exact SlAt.of_owns h.own
  have hll : l.length ≤ 4398046511104 := by rw [hl, length_pack]; omega
  clear h hl
  go_enter Tryz.func29, Tryz.ntmps29
  go_wp2_with (go_at_call 57; refine (copied_any w rv l HS.out hll).mono ?_; rintro e w2 ⟨rfl, h2, h3⟩)
  go_ret
  exact ⟨rfl, h2, h3⟩

/-- A reader in memory: its struct lies at block b, its row in the value rv; so many digits were taken. -/
structure RdAt (w : World) (b : Nat) (rv : Value) (l : List Nat) (at_ : Nat) : Prop where
  box : w.heap[b]? = some (.cells #[rv, .int .i64 (at_ : Nat)] 83 (0, 0))
  row : SlAt w rv l
  le : at_ ≤ 8 * l.length
  ne : rv.ownBlock ≠ some b
  byte : ∀ x ∈ l, x < 256
  small : l.length ≤ 4398046511104

theorem Kept.of_below {F : Nat → Prop} {w w' : World} (h : Below w.heap.size w w') : Kept F w w' := ⟨h.os, h.tape, h.output, h.size, fun k hk _ => h.block k hk⟩

set_option maxHeartbeats 400000 in
theorem newReader_any (w : World) (v : Value) (l : List Nat) (h : SlAt w v l) (hl : l.length ≤ 4398046511104) (hb : ∀ x ∈ l, x < 256) :
    Calls Tryz.prog 30 #[v] w fun e w' => ∃ b, e = .returned (.pointer (some ⟨b, 0, none⟩)) ∧ w.heap.size < b ∧ RdAt w' b (.slice (some ⟨w.heap.size, 0, none⟩) l.length l.length) l 0 ∧ Below w.heap.size w w' := by
  have HS : Hid (SlAt w v l) := h
  have HB : Hid (∀ x ∈ l, x < 256) := hb
  clear h hb
  go_enter Tryz.func30, Tryz.ntmps30
  go_wp2_with (go_at_call 57; refine (copied_any w v l HS.out hl).mono ?_; rintro e w2 ⟨rfl, h2, h3⟩)
  go_ret
  refine ⟨w2.heap.size, rfl, ?_, ⟨?_, ?_, Nat.zero_le _, ?_, HB.out, hl⟩, h3.alloc h3.size _⟩
  · have := (h2.lt w.heap.size rfl).2; omega
  · exact heap_alloc_new w2 _
  · exact SlAt.of_owns (h2.alloc _)
  · have := (h2.lt w.heap.size rfl).2
    simp [Value.ownBlock]; omega

set_option maxHeartbeats 400000 in
theorem left_any (w : World) (b : Nat) (rv : Value) (l : List Nat) (k : Nat) (h : RdAt w b rv l k) :
    Calls Tryz.prog 75 #[.pointer (some ⟨b, 0, none⟩)] w fun e w' => e = .returned (.int .i64 (8 * (l.length : Int) - k)) ∧ w' = w.drew := by
  have hb0 : w.cell? ⟨b, 0, none⟩ = some rv := by simp [World.cell?, h.box]
  have hb1 : w.cell? ⟨b, 1, none⟩ = some (.int .i64 (k : Nat)) := by simp [World.cell?, h.box]
  have hle := h.le
  have hs := h.small
  obtain ⟨ao, cap, rfl, _⟩ := h.row
  clear h
  go_enter Tryz.func75, Tryz.ntmps75
  go_wp2
  go_region
  all_goals go_wp2
  all_goals go_ret
  all_goals exact ⟨rfl, rfl⟩

theorem bit_of (x j : Nat) (d : Bool) (hx : x < 256) (hd : digitOf x j = d) : bits BinOp.and IntKind.u8 ((x : Int) / 2 ^ (7 - j)) 1 = (d.toNat : Int) := by
  have e : (x : Int) / 2 ^ (7 - j) = ((x / 2 ^ (7 - j) : Nat) : Int) := by push_cast; rfl
  have hlt : x / 2 ^ (7 - j) < 256 := Nat.lt_of_le_of_lt (Nat.div_le_self _ _) hx
  rw [e]
  have e1 : (1 : Int) = ((1 : Nat) : Int) := rfl
  rw [e1, u8_and_nat _ _ hlt (by decide), nat_mask1, ← hd]
  unfold digitOf
  have h2 : x / 2 ^ (7 - j) % 2 = 0 ∨ x / 2 ^ (7 - j) % 2 = 1 := by omega
  rcases h2 with h | h <;> simp [h]

set_option maxHeartbeats 400000 in
theorem digit_any (w : World) (b : Nat) (rv : Value) (l : List Nat) (k : Nat) (h : RdAt w b rv l k) (i : Nat) (d : Bool) (hd : (unpack l)[i]? = some d) :
    Calls Tryz.prog 63 #[.pointer (some ⟨b, 0, none⟩), .int .i64 i] w fun e w' => e = .returned (.int .u8 (d.toNat : Int)) ∧ w' = w := by
  have hb0 : w.cell? ⟨b, 0, none⟩ = some rv := by simp [World.cell?, h.box]
  have hi : i < 8 * l.length := by have := (List.getElem?_eq_some_iff.1 hd).1; simpa using this
  have hs := h.small
  rw [unpack_get] at hd
  obtain ⟨x, hx, hxd⟩ := Option.map_eq_some_iff.1 hd
  obtain ⟨ao, cap, rfl, hc⟩ := h.row
  obtain ⟨g, off, rfl, hcell⟩ := hc _ _ hx
  have hlt : i / 8 < l.length := (List.getElem?_eq_some_iff.1 hx).1
  have hx256 := h.byte x (List.mem_of_getElem? hx)
  have HD : Hid (digitOf x (i % 8) = d) := hxd
  clear h hc hd hx hxd
  go_enter Tryz.func63, Tryz.ntmps63
  go_wp2
  go_ret
  exact ⟨ret_int (bit_of x (i % 8) d hx256 HD.out), rfl⟩

end Go.Proofs.YtlonnoapbfjomabGreat
