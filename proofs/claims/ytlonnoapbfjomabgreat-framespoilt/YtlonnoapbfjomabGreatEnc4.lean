/- frame: the digits of a kind; As. -/
import Derived.Test.YtlonnoapbfjomabGreatEnc3
import Derived.Test.YtlonnoapbfjomabGreatFrm5
namespace Go.Proofs.YtlonnoapbfjomabGreat
set_option linter.unusedVariables false
set_option linter.unusedSimpArgs false
open Go.RowKit Dg

/-- What written answers: a writer of the call's own, and whether it holds a frame. -/
def Wrt (w w' : World) (o : Option (List Bool)) (e : Ending) : Prop :=
  ∃ b, e = .returned (.tuple #[.pointer (some ⟨b, 0, none⟩), .bool o.isSome]) ∧ Below w.heap.size w w' ∧ w.heap.size ≤ b ∧ ∀ D, o = some D → ∃ rv, WrAt w' b rv D
theorem Wrt.of {w w2 w3 : World} {b : Nat} {rv2 : Value} {H : List Bool} {o o' : Option (List Bool)} {t : Bool} (hbw : b = w.heap.size) (hb2 : Below w.heap.size w w2) (hw2 : WrAt w2 b rv2 H) (h3 : PutB w2 w3 b rv2 H o' (.returned (.bool t))) (ho : o = o'.map fun D => H ++ D) :
    Wrt w w3 o (.returned (.tuple #[.pointer (some ⟨b, 0, none⟩), .bool t])) := by
  have key : ∀ ds', Wrote w2 w3 b rv2 ds' → Below w.heap.size w w3 := by
    rintro ds' ⟨rv', -, hk, -⟩
    exact hk.below_of hb2 (fun k hf => by have := (hw2.foot k hf).1; omega) hb2.size
  cases o' with
  | none =>
    obtain ⟨he, ds', h⟩ := h3
    cases he
    subst ho
    exact ⟨b, rfl, key _ h, by omega, fun D hD => by cases hD⟩
  | some D =>
    obtain ⟨he, h⟩ := h3
    cases he
    subst ho
    refine ⟨b, rfl, key _ h, by omega, fun D' hD => ?_⟩
    cases hD
    obtain ⟨rv', h1, -, -⟩ := h
    exact ⟨rv', h1⟩

set_option maxRecDepth 100000 in
set_option maxHeartbeats 4000000 in
theorem pwritten_any (w : World) (kind : Int) (s : Nat) (a : Option Addr) (cap : Nat) (l : List Int) (hl : Ns w a cap l) (hm : mayX l) (hs : IsShift (autoZ l 0) s) (o : Option (List Bool)) (ho : o = frm kind l s) :
    Calls Tryz.prog 27 #[.int .i64 kind, .slice a l.length cap] w fun e w' => Wrt w w' o e := by
  have HL := hid_of hl
  have HM := hid_of hm
  have HS := hid_of hs
  have hl1 : 1 ≤ l.length := hm.1
  have hl64 : l.length ≤ 64 := hm.2.1
  have hahead : ∀ y, a = some y → y.block < w.heap.size := by
    intro y hy
    obtain ⟨x, hx⟩ : ∃ x, l[0]? = some x := ⟨l[0]'(by omega), by simp⟩
    obtain ⟨b0, o0, e0, hc0⟩ := hl.at_ 0 x hx
    rw [hy] at e0
    cases e0
    exact World.block_lt_of_cell? w _ hc0
  have HAH := hid_of hahead
  unfold frm at ho
  have HO : Hid (o = _) := ho
  clear hl hm hs ho hahead
  go_enter Tryz.func27, Tryz.ntmps27
  go_wp2_with fail
  refine (newWriter_any _).mono ?_
  rintro e w1 ⟨rfl, hwa1, hb1, hs1⟩
  obtain ⟨b, hb⟩ : ∃ b, b = w.heap.size := ⟨_, rfl⟩
  rw [← hb] at hwa1 hs1 ⊢
  have HSB : Hid (b = w.heap.size) := hb
  have HW1 := hid_of hwa1
  have HB1 : Hid (Below w.heap.size w w1) := hb1
  clear hwa1 hb1 hb
  go_wp2_with fail
  refine (put_at w1 b _ [] kind 8 HW1.out (by simp) (by decide) _ rfl).mono ?_
  rintro e w2 ⟨rfl, rv2, hw2, hk2, hn2⟩
  have HB2 : Hid (Below w.heap.size w w2) := hk2.below_of HB1.out (fun k hf => by have h1 := (HW1.out.foot k hf).1; have h2 := HSB.out; omega) HB1.out.size
  have HW2 := hid_of hw2
  clear hw2 hk2 hn2
  go_wp2_with fail
  refine (put_at w2 b rv2 _ (l.length : Int) 8 HW2.out (by simp) (by decide) _ rfl).mono ?_
  rintro e w3 ⟨rfl, rv3, hw3, hk3, hn3⟩
  have HB3 : Hid (Below w.heap.size w w3) := hk3.below_of HB2.out (fun k hf => by have h1 := (HW2.out.foot k hf).1; have h2 := HSB.out; omega) HB2.out.size
  have HW3 : Hid (WrAt w3 b rv3 (headD kind l.length)) := by show WrAt _ _ _ _; simpa [headD] using hw3
  have HL3 := hid_of (HL.out.mono HB3.out)
  have HA3 : Hid (∀ y, a = some y → ¬ Wf b rv3 y.block) := ahead HW3.out (fun y hy => by rw [HSB.out]; exact HAH.out y hy)
  have hd3 : (headD kind l.length).length ≤ 1000 := by simp
  clear hw3 hk3 hn3 HW1 HB1 HW2 HB2
  rcases (by omega : kind = 0 ∨ kind = 1 ∨ (2 ≤ kind ∧ kind ≤ 6) ∨ (7 ≤ kind ∧ kind ≤ 18) ∨ kind < 0 ∨ 18 < kind) with rfl | rfl | ⟨h1, h2⟩ | ⟨h1, h2⟩ | h1 | h1
  · have HOO : Hid (o = (if allOne l then some (sampD (l.getD 0 0)) else none).map fun D => headD 0 l.length ++ D) := by
      show _ = _
      rw [HO.out, if_neg (by simp [HM.out]), if_pos rfl]
      by_cases ha : allOne l
      · rw [if_pos ha, if_pos ha]; rfl
      · rw [if_neg ha, if_neg ha]; rfl
    clear HO
    go_wp2_with fail
    refine (pconst_any w3 b cap rv3 _ a l HW3.out HL3.out HA3.out HM.out hd3 _ rfl).mono ?_
    rintro e w4 h4
    obtain ⟨t, rfl⟩ := h4.form
    have H4 := hid_of h4
    clear h4
    go_wp2_with fail
    go_ret2
    exact Wrt.of HSB.out HB3.out HW3.out H4.out HOO.out
  · have HOO : Hid (o = (some (sampsD l)).map fun D => headD 1 l.length ++ D) := by
      show _ = _
      rw [HO.out, if_neg (by simp [HM.out]), if_neg (by decide), if_pos rfl]
      rfl
    clear HO
    go_wp2_with fail
    refine (pputs_any w3 b _ cap rv3 _ a l rfl HW3.out HL3.out.at_ HA3.out HM.out.2.2 (by omega) (by omega) _ rfl).mono ?_
    rintro e w4 ⟨rfl, h4⟩
    have H4 := hid_of h4
    clear h4
    go_wp2_with fail
    go_ret2
    exact Wrt.of (o' := some (sampsD l)) HSB.out HB3.out HW3.out ⟨rfl, H4.out⟩ HOO.out
  · obtain ⟨n, hn⟩ : ∃ n : Nat, (n : Int) = kind - 2 := ⟨(kind - 2).toNat, by omega⟩
    have hkb0 : (kind == 0) = false := beq_eq_false_iff_ne.2 (by omega)
    have hkb1 : (kind == 1) = false := beq_eq_false_iff_ne.2 (by omega)
    have HN := hid_of hn
    have hn4 : n ≤ 4 := by omega
    have HOO : Hid (o = (if l.length < n then none else if okZ (residZ l n) then some (sampsD (l.take n) ++ residD (residZ l n)) else none).map fun D => headD kind l.length ++ D) := by
      show _ = _
      have e : (kind - 2).toNat = n := by omega
      rw [HO.out, if_neg (by simp [HM.out]; omega), if_neg (by omega), if_neg (by omega), if_pos (by omega), e]
      by_cases ha : l.length < n
      · rw [if_pos ha, if_pos (by omega)]; rfl
      · rw [if_neg ha, if_neg (by omega)]
        by_cases hz : okZ (residZ l n)
        · rw [if_pos hz, if_pos hz, List.append_assoc]; rfl
        · rw [if_neg hz, if_neg hz]; rfl
    clear HO hn
    go_wp2_with (go_at_call 54; refine (pfix_any _ _ (by omega) (by omega) _ HN.out).mono ?_; rintro e w4 ⟨rfl, rfl⟩)
    refine (pfixed_any w3 b cap n rv3 _ a l HW3.out HL3.out HA3.out HM.out hn4 hd3 _ rfl).mono ?_
    rintro e w4 h4
    obtain ⟨t, rfl⟩ := h4.form
    have H4 := hid_of h4
    clear h4
    go_wp2_with fail
    go_ret2
    exact Wrt.of HSB.out HB3.out HW3.out H4.out HOO.out
  · obtain ⟨n, hn⟩ : ∃ n : Nat, (n : Int) = kind - 6 := ⟨(kind - 6).toNat, by omega⟩
    have hkb0 : (kind == 0) = false := beq_eq_false_iff_ne.2 (by omega)
    have hkb1 : (kind == 1) = false := beq_eq_false_iff_ne.2 (by omega)
    have HN := hid_of hn
    have hn1 : 1 ≤ n := by omega
    have hn12 : n ≤ 12 := by omega
    have HOO : Hid (o = (if (coOut l (n : Int) s).2 = true then (if okZ (lresidZ l (coOut l (n : Int) s).1) then some (sampsD (l.take n) ++ coefsD (coOut l (n : Int) s).1 ++ residD (lresidZ l (coOut l (n : Int) s).1)) else none) else none).map fun D => headD kind l.length ++ D) := by
      show _ = _
      have e : (kind - 6).toNat = n := by omega
      rw [HO.out, if_neg (by simp [HM.out]; omega), if_neg (by omega), if_neg (by omega), if_neg (by omega), e, ← hn]
      by_cases ha : (coOut l (n : Int) s).2 = true
      · rw [if_pos ha, if_pos ha]
        by_cases hz : okZ (lresidZ l (coOut l (n : Int) s).1)
        · rw [if_pos hz, if_pos hz]; simp only [List.append_assoc]; rfl
        · rw [if_neg hz, if_neg hz]; rfl
      · rw [if_neg ha, if_neg ha]; rfl
    clear HO hn
    go_wp2_with (go_at_call 56; refine (plpc_any _ _ (by omega) (by omega) _ HN.out).mono ?_; rintro e w4 ⟨rfl, rfl⟩)
    refine (plpcs_any w3 b cap n s rv3 _ a l HW3.out HL3.out HA3.out HM.out HS.out hn1 hn12 hd3 _ rfl).mono ?_
    rintro e w4 h4
    obtain ⟨t, rfl⟩ := h4.form
    have H4 := hid_of h4
    clear h4
    go_wp2_with fail
    go_ret2
    exact Wrt.of HSB.out HB3.out HW3.out H4.out HOO.out
  · have HOO : Hid (o = (none : Option (List Bool)).map fun D => headD kind l.length ++ D) := by
      show _ = _
      rw [HO.out, if_pos (.inr (.inl h1))]
      rfl
    have hkb0 : (kind == 0) = false := beq_eq_false_iff_ne.2 (by omega)
    have hkb1 : (kind == 1) = false := beq_eq_false_iff_ne.2 (by omega)
    clear HO
    go_wp2_with fail
    go_ret2
    exact Wrt.of (o' := none) HSB.out HB3.out HW3.out ⟨rfl, _, Wrote.refl HW3.out⟩ HOO.out
  · have HOO : Hid (o = (none : Option (List Bool)).map fun D => headD kind l.length ++ D) := by
      show _ = _
      rw [HO.out, if_pos (.inr (.inr h1))]
      rfl
    have hkb0 : (kind == 0) = false := beq_eq_false_iff_ne.2 (by omega)
    have hkb1 : (kind == 1) = false := beq_eq_false_iff_ne.2 (by omega)
    clear HO
    go_wp2_with fail
    go_ret2
    exact Wrt.of (o' := none) HSB.out HB3.out HW3.out ⟨rfl, _, Wrote.refl HW3.out⟩ HOO.out

/-- A row of bytes of the call's own that is as long as its room. -/
def FullB (v : Value) (n : Nat) : Prop := v = .slice none 0 0 ∧ n = 0 ∨ ∃ g, v = .slice (some ⟨g, 0, none⟩) n n
def FullY (w w' : World) (R : List Nat × Bool) (e : Ending) : Prop := ∃ v, e = .returned (.tuple #[v, .bool R.2]) ∧ OwnBytes w' w.heap.size v R.1 ∧ FullB v R.1.length ∧ Below w.heap.size w w'
def FullN (w w' : World) (R : List Nat × Int) (e : Ending) : Prop := ∃ v, e = .returned (.tuple #[v, .int .i64 R.2]) ∧ OwnBytes w' w.heap.size v R.1 ∧ FullB v R.1.length ∧ Below w.heap.size w w'

end Go.Proofs.YtlonnoapbfjomabGreat
