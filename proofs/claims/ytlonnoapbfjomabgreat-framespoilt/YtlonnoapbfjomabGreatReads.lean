/- BitsReads: the walk of the law. -/
import Derived.Test.YtlonnoapbfjomabGreatRef5
namespace Go.Proofs.YtlonnoapbfjomabGreat
set_option linter.unusedVariables false
set_option linter.unusedSimpArgs false
open Go.RowKit Dg

theorem get_all' (w : World) (b : Nat) (rv : Value) (l : List Nat) (k : Nat) (n : Int) (h : RdAt w b rv l k) (o : Nat × Nat × Bool) (ho : getOut (left l k) n = o) :
    Calls Tryz.prog 58 #[.pointer (some ⟨b, 0, none⟩), .int .i64 n] w fun e w' => e = .returned (.tuple #[.int .i64 (o.1 : Nat), .bool o.2.2]) ∧ RdAt w' b rv l (k + o.2.1) ∧ Kept (fun i => i = b) w w' := by
  subst ho; exact get_all w b rv l k n h
theorem rones_all' (w : World) (b : Nat) (rv : Value) (l : List Nat) (k : Nat) (n : Int) (h : RdAt w b rv l k) (o : Nat × Nat × Bool) (ho : onesOut (left l k) n = o) :
    Calls Tryz.prog 108 #[.pointer (some ⟨b, 0, none⟩), .int .i64 n] w fun e w' => e = .returned (.tuple #[.int .i64 (o.1 : Nat), .bool o.2.2]) ∧ RdAt w' b rv l (k + o.2.1) ∧ Kept (fun i => i = b) w w' := by
  subst ho; exact rones_all w b rv l k n h
theorem rget_all' (w : World) (v : Value) (l : List Nat) (k : Nat) (n : Int) (h : BtAt w v (left l k)) (o : Nat × Nat × Bool) (ho : getOut (left l k) n = o) :
    Calls Tryz.prog 34 #[v, .int .i64 n] w fun e w' => ∃ v', e = .returned (.tuple #[.int .i64 (o.1 : Nat), v', .bool o.2.2]) ∧ BtAt w' v' (left l (k + o.2.1)) ∧ (∀ k, v'.ownBlock = some k → v.ownBlock = some k) ∧ ∃ m, w' = w.drewN m := by
  subst ho; rw [left_drop]; exact rget_all w v _ n h
theorem take_all' (w : World) (v : Value) (l : List Nat) (k : Nat) (n : Int) (h : BtAt w v (left l k)) (o : Nat × Nat × Bool) (ho : onesOut (left l k) n = o) :
    Calls Tryz.prog 80 #[v, .int .i64 n] w fun e w' => ∃ v', e = .returned (.tuple #[.int .i64 (o.1 : Nat), v', .bool o.2.2]) ∧ BtAt w' v' (left l (k + o.2.1)) ∧ (∀ k, v'.ownBlock = some k → v.ownBlock = some k) ∧ ∃ m, w' = w.drewN m := by
  subst ho; rw [left_drop]; exact take_all w v _ n h

theorem BtAt.form {w : World} {v : Value} {ds : List Bool} (h : BtAt w v ds) : ∃ a cap, v = .slice a ds.length cap := by
  rcases h with ⟨rfl, rfl⟩ | ⟨b, off, cap, rfl, _⟩
  · exact ⟨none, 0, rfl⟩
  · exact ⟨_, cap, rfl⟩

theorem RowIs.sl {w : World} {g : Nat} {l : List Nat} (h : RowIs w g (u8s (l ++ [85, 85, 85]))) : SlAt w (.slice (some ⟨g, 0, none⟩) l.length (l.length + 3)) l := by
  refine ⟨some ⟨g, 0, none⟩, l.length + 3, rfl, fun j x hx => ⟨g, 0, rfl, ?_⟩⟩
  rw [Nat.zero_add]
  refine h.cell ?_
  rw [u8s_get, List.getElem?_append_left (List.getElem?_eq_some_iff.1 hx).1, hx]
  rfl

theorem RdAt.drewN {w : World} {b : Nat} {rv : Value} {l : List Nat} {k : Nat} (n : Nat) (h : RdAt w b rv l k) : RdAt (w.drewN n) b rv l k := ⟨h.box, h.row, h.le, h.ne, h.byte, h.small⟩

theorem rest_all' (w : World) (b : Nat) (rv : Value) (l : List Nat) (k : Nat) (h : RdAt w b rv l k) (q : Bool) (hq : q = noOnes (left l k)) :
    Calls Tryz.prog 32 #[.pointer (some ⟨b, 0, none⟩)] w fun e w' => e = .returned (.bool q) ∧ w = w' := by subst hq; exact rest_all w b rv l k h
theorem rrest_all' (w : World) (v : Value) (ds : List Bool) (h : BtAt w v ds) (hlen : ds.length ≤ 4398046511104) (q : Bool) (hq : q = noOnes ds) :
    Calls Tryz.prog 39 #[v] w fun e w' => e = .returned (.bool q) ∧ w = w' := by subst hq; exact rrest_all w v ds h hlen

/-- What the loop keeps: a reader and the document's digits, as much taken of each. -/
structure ReadAt (w wr : World) (r g : Nat) (rvr v : Value) (l : List Nat) (k : Nat) : Prop where
  rd : RdAt wr r rvr l k
  bt : BtAt wr v (left l k)
  ap : ∀ i, v.ownBlock = some i → r < i
  row : RowIs wr g (u8s (l ++ [85, 85, 85]))
  bel : Below w.heap.size w wr

end Go.Proofs.YtlonnoapbfjomabGreat
