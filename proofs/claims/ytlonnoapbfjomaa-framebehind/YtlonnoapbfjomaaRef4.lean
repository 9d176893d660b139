/- The document's own answers: Of. -/
import Derived.Test.YtlonnoapbfjomaaRef3
namespace Go.Proofs.Ytlonnoapbfjomaa
set_option linter.unusedVariables false
set_option linter.unusedSimpArgs false
open Go.RowKit Dg

/-- Digits as bytes. -/
def bn (ds : List Bool) : List Nat := ds.map Bool.toNat
@[simp] theorem length_bn (ds : List Bool) : (bn ds).length = ds.length := by simp [bn]
theorem bn_snoc (ds : List Bool) (d : Bool) : u8s (bn (ds ++ [d])) = u8s (bn ds) ++ [.int .u8 (d.toNat : Int)] := by simp [u8s, bn]
theorem bn_get (ds : List Bool) (j : Nat) : (u8s (bn ds))[j]? = ds[j]?.map fun d => Value.int .u8 (d.toNat : Int) := by simp [u8s, bn]; rfl

theorem BtAt.of_owns {w : World} {base : Nat} {v : Value} {ds : List Bool} (h : w.ownsRow base 5 1 v ds.length (u8s (bn ds))) : BtAt w v ds := by
  rcases h.2 with ⟨rfl, hn⟩ | ⟨g, cap, cur, rfl, hb, hh, hn, hm, hcs, htake⟩
  · exact Or.inl ⟨rfl, List.eq_nil_of_length_eq_zero hn⟩
  · refine Or.inr ⟨g, 0, cap, rfl, (Array.getElem?_eq_some_iff.1 hh).1, hn, hm, fun j d hd => ?_⟩
    have hj : j < ds.length := (List.getElem?_eq_some_iff.1 hd).1
    have e : (u8s (bn ds))[j]? = some (.int .u8 (d.toNat : Int)) := by rw [bn_get, hd]; rfl
    rw [← htake, List.getElem?_take, if_pos (by omega)] at e
    simp only [World.cell?, hh]
    simpa using e

theorem bit_k (x k : Nat) (d : Bool) (hx : x < 256) (hd : d = ((x : Int) / 2 ^ k % 2 == 1)) : bits BinOp.and IntKind.u8 ((x : Int) / 2 ^ k) 1 = (d.toNat : Int) := by
  have e : (x : Int) / 2 ^ k = ((x / 2 ^ k : Nat) : Int) := by push_cast; rfl
  have hlt : x / 2 ^ k < 256 := Nat.lt_of_le_of_lt (Nat.div_le_self _ _) hx
  rw [e] at hd ⊢
  have e1 : (1 : Int) = ((1 : Nat) : Int) := rfl
  rw [e1, u8_and_nat _ _ hlt (by decide), nat_mask1, hd]
  have h2 : x / 2 ^ k % 2 = 0 ∨ x / 2 ^ k % 2 = 1 := by omega
  have e3 : ((x / 2 ^ k : Nat) : Int) % 2 = ((x / 2 ^ k % 2 : Nat) : Int) := by push_cast; rfl
  rw [e3]
  rcases h2 with h | h <;> rw [h] <;> rfl

theorem dig8 (x : Nat) : dig (x : Int) 8 = (List.range 8).map (digitOf x) := by
  have h : ∀ k j : Nat, 7 - j = k → ((x : Int) / 2 ^ k % 2 == 1) = digitOf x j := by
    intro k j hk
    unfold digitOf
    rw [hk]
    have e : (x : Int) / 2 ^ k % 2 = ((x / 2 ^ k % 2 : Nat) : Int) := by push_cast; rfl
    rw [e]
    have h2 : x / 2 ^ k % 2 = 0 ∨ x / 2 ^ k % 2 = 1 := by omega
    rcases h2 with h | h <;> rw [h] <;> rfl
  have e : List.range 8 = [0, 1, 2, 3, 4, 5, 6, 7] := by decide
  rw [e]
  simp only [dig, List.map_cons, List.map_nil]
  rw [h 7 0 rfl, h 6 1 rfl, h 5 2 rfl, h 4 3 rfl, h 3 4 rfl, h 2 5 rfl, h 1 6 rfl, h 0 7 rfl]

theorem unpack_snoc (l : List Nat) (x : Nat) : unpack (l ++ [x]) = unpack l ++ dig (x : Int) 8 := by rw [dig8]; simp [unpack]

theorem Try.underlyingBits : Try.prog.underlying 58 = some (.slice 5) := by kernel_rfl

/-- What of bytes a loop has laid as digits. -/
def OfAt (w wr : World) (v : Value) (ds : List Bool) : Prop := wr.ownsRow w.heap.size 5 1 v ds.length (u8s (bn ds)) ∧ Below w.heap.size w wr

end Go.Proofs.Ytlonnoapbfjomaa
