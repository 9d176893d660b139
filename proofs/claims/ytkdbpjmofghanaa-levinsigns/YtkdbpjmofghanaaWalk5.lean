/- Bytes; the reader: NewReader, digit, Left, Get. -/
import Derived.Test.YtkdbpjmofghanaaWalk4
namespace Go.Proofs.Ytkdbpjmofghanaa
set_option linter.unusedVariables false
set_option linter.unusedSimpArgs false
open Go.RowKit Dg

/-- New bytes: where they lie, what they are; nothing old has turned. -/
def NewBytes (w w' : World) (l : List Nat) : Prop :=
  w'.ownsRow w.heap.size 5 1 (.slice (some ⟨w.heap.size, 0, none⟩) l.length l.length) l.length (u8s l) ∧ Below w.heap.size w w'

theorem Kept.of_below {F : Nat → Prop} {w w' : World} (h : Below w.heap.size w w') : Kept F w w' := ⟨h.os, h.tape, h.output, h.size, fun k hk _ => h.block k hk⟩

theorem bit_of (x j : Nat) (d : Bool) (hx : x < 256) (hd : digitOf x j = d) : bits BinOp.and IntKind.u8 ((x : Int) / 2 ^ (7 - j)) 1 = (d.toNat : Int) := by
  have e : (x : Int) / 2 ^ (7 - j) = ((x / 2 ^ (7 - j) : Nat) : Int) := by push_cast; rfl
  have hlt : x / 2 ^ (7 - j) < 256 := Nat.lt_of_le_of_lt (Nat.div_le_self _ _) hx
  rw [e]
  have e1 : (1 : Int) = ((1 : Nat) : Int) := rfl
  rw [e1, u8_and_nat _ _ hlt (by decide), nat_mask1, ← hd]
  unfold digitOf
  have h2 : x / 2 ^ (7 - j) % 2 = 0 ∨ x / 2 ^ (7 - j) % 2 = 1 := by omega
  rcases h2 with h | h <;> simp [h]

end Go.Proofs.Ytkdbpjmofghanaa
