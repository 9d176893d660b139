/- frame: counts, samples, and what is put: samples, a constant, residuals. -/
import Derived.Test.YtlonnoapbfjomabGreatFrmMath
import Derived.Test.YtlonnoapbfjomabGreatIntsC
namespace Go.Proofs.YtlonnoapbfjomabGreat
set_option linter.unusedVariables false
set_option linter.unusedSimpArgs false
open Go.RowKit Dg

set_option maxHeartbeats 1000000 in
theorem pare_any (w : World) (a : Option Addr) (cap : Nat) (l : List Int) (h : IntsAt w a l) (hl : l.length ≤ 1000000) (t : Bool) (ht : t = decide (allS l)) :
    Calls Tryz.prog 26 #[.slice a l.length cap] w fun e w' => e = .returned (.bool t) ∧ w = w' := by
  have H : Hid (IntsAt w a l) := h
  have HT : Hid (t = decide (allS l)) := ht
  clear h ht
  go_enter Tryz.func26, Tryz.ntmps26
  go_wp2
  go_loopw [7] (fun i wr => ∃ k : Nat, k ≤ l.length ∧ i = .int .i64 k ∧ Hid (allS (l.take k)) ∧ w = wr) (fun i _ => l.length - (intOf i).toNat)
  case atStart => exact ⟨0, Nat.zero_le _, rfl, fun x hx => by simp at hx, rfl⟩
  case round =>
    obtain ⟨k, hk, rfl, hall, rfl⟩ := hrel
    by_cases hkn : k < l.length
    · obtain ⟨x, hx⟩ : ∃ x, l[k]? = some x := ⟨l[k], by simp [hkn]⟩
      obtain ⟨b, off, rfl, hc⟩ := H.out k x hx
      have HX : Hid (l[k]? = some x) := hx
      clear hx
      have hbad : ¬ isS x → t = false := fun hn => by
        rw [HT.out]
        exact decide_eq_false (fun ha => hn (ha x (List.mem_of_getElem? HX.out)))
      by_cases hlo : x < -8388608
      · have ht := hbad (by unfold isS; omega)
        subst ht
        clear hbad
        go_wp2_with fail
        go_ret
        exact ⟨rfl, rfl⟩
      · by_cases hhi : 8388607 < x
        · have ht := hbad (by unfold isS; omega)
          subst ht
          clear hbad
          go_wp2_with fail
          go_ret
          exact ⟨rfl, rfl⟩
        · clear hbad
          go_wp2_with fail
          refine ⟨⟨k + 1, by omega, by go_num, ?_, by trivial⟩, by (simp [intOf]) <;> omega⟩
          show allS _
          rw [take_next l k x HX.out]
          exact hall.out.snoc (by unfold isS; omega)
    · have e : k = l.length := by omega
      subst e
      have ht : t = true := by
        have := hall.out
        rw [List.take_length] at this
        rw [HT.out]; exact decide_eq_true this
      subst ht
      go_wp2_with fail
      go_ret
      exact ⟨rfl, rfl⟩

set_option maxHeartbeats 1000000 in
theorem pcount_any (w : World) (n : Int) (t : Bool) (ht : t = decide (1 ≤ n ∧ n ≤ 64)) :
    Calls Tryz.prog 25 #[.int .i64 n] w fun e w' => e = .returned (.bool t) ∧ w = w' := by
  have HT := hid_of ht
  clear ht
  rcases (by omega : n < 1 ∨ (1 ≤ n ∧ n ≤ 64) ∨ (1 ≤ n ∧ 64 < n)) with h | ⟨h1, h2⟩ | ⟨h1, h2⟩
  · have e : t = false := by rw [HT.out]; exact decide_eq_false (by omega)
    subst e
    go_enter Tryz.func25, Tryz.ntmps25
    go_wp2_with fail
    go_ret
    exact ⟨rfl, rfl⟩
  · have e : t = true := by rw [HT.out]; exact decide_eq_true (by omega)
    have hb : decide (n ≤ 64) = true := decide_eq_true (by omega)
    subst e
    go_enter Tryz.func25, Tryz.ntmps25
    go_wp2_with fail
    go_ret
    rw [← hb]
    exact ⟨rfl, rfl⟩
  · have e : t = false := by rw [HT.out]; exact decide_eq_false (by omega)
    have hb : decide (n ≤ 64) = false := decide_eq_false (by omega)
    subst e
    go_enter Tryz.func25, Tryz.ntmps25
    go_wp2_with fail
    go_ret
    rw [← hb]
    exact ⟨rfl, rfl⟩
theorem pfix_any (w : World) (kind : Int) (h0 : 0 ≤ kind) (h1 : kind ≤ 1000) (n : Int) (hn : n = kind - 2) :
    Calls Tryz.prog 54 #[.int .i64 kind] w fun e w' => e = .returned (.int .i64 n) ∧ w = w' := by
  subst hn
  go_enter Tryz.func54, Tryz.ntmps54
  go_wp2_with fail
  go_ret
  exact ⟨rfl, rfl⟩
theorem plpc_any (w : World) (kind : Int) (h0 : 0 ≤ kind) (h1 : kind ≤ 1000) (n : Int) (hn : n = kind - 6) :
    Calls Tryz.prog 56 #[.int .i64 kind] w fun e w' => e = .returned (.int .i64 n) ∧ w = w' := by
  have HN := hid_of hn
  clear hn
  go_enter Tryz.func56, Tryz.ntmps56
  go_wp2_with fail
  go_ret
  refine ⟨?_, rfl⟩
  rw [HN.out]
  exact ret_int (by omega)

/-- A block ahead of the writer is none of its own. -/
theorem ahead {w : World} {b : Nat} {rv : Value} {ds : List Bool} (h : WrAt w b rv ds) {a : Option Addr} (ha : ∀ y, a = some y → y.block < b) : ∀ y, a = some y → ¬ Wf b rv y.block := fun y hy hf => by
  have h1 := (h.foot _ hf).1
  have h2 := ha y hy
  omega
set_option maxRecDepth 100000 in
set_option maxHeartbeats 4000000 in
theorem pputs_any (w : World) (b n cap : Nat) (rv : Value) (ds : List Bool) (a : Option Addr) (l : List Int) (hn : l.length = n) (h : WrAt w b rv ds) (hl : IntsAt w a l) (ha : ∀ y, a = some y → ¬ Wf b rv y.block) (hS : allS l) (hd : ds.length ≤ 100000) (hll : n ≤ 1000) (D : List Bool) (hD : D = ds ++ sampsD l) :
    Calls Tryz.prog 52 #[.pointer (some ⟨b, 0, none⟩), .slice a n cap] w fun e w' => e = .returned (.tuple #[]) ∧ Wrote w w' b rv D := by
  have HN := hid_of hn
  have HW := hid_of h
  have HL := hid_of hl
  have HA := hid_of ha
  have HS := hid_of hS
  have HD := hid_of hD
  clear hn h hl ha hS hD
  go_enter Tryz.func52, Tryz.ntmps52
  go_wp2_with fail
  go_loopw [8] (fun i wr => ∃ k : Nat, k ≤ n ∧ i = .int .i64 (k : Int) ∧ Hid (Wrote w wr b rv (ds ++ sampsD (l.take k)))) (fun i _ => n - (intOf i).toNat)
  case atStart => exact ⟨0, Nat.zero_le _, rfl, by show Wrote _ _ _ _ _; simpa using Wrote.refl HW.out⟩
  case round =>
    obtain ⟨k, hk, rfl, hwr⟩ := hrel
    by_cases hkn : k < n
    · obtain ⟨x, hx⟩ : ∃ x, l[k]? = some x := ⟨l[k]'(by rw [HN.out]; exact hkn), by simp⟩
      obtain ⟨rv1, hw1, hk1, hn1⟩ := hwr.out
      obtain ⟨b0, off, rfl, hc⟩ := (HL.out.kept hk1 HA.out) k x hx
      obtain ⟨hx1, hx2⟩ := HS.out x (List.mem_of_getElem? hx)
      have HE : Hid (ds ++ sampsD (l.take (k + 1)) = ds ++ sampsD (l.take k) ++ dig (x + 8388608) 24) := by
        show _ = _
        rw [take_next l k x hx, sampsD_snoc, List.append_assoc]
        rfl
      have hlen : (ds ++ sampsD (l.take k)).length < 4398046511000 := by simp; omega
      have HW1 := hid_of hw1
      have HK1 := hid_of hk1
      have HN1 := hid_of hn1
      clear hx hw1 hk1 hn1 hwr
      go_wp2_with fail
      refine (put_at wr b rv1 _ (x + 8388608) 24 HW1.out hlen (by decide) _ rfl).mono ?_
      rw [← HE.out]
      rintro e w3 ⟨rfl, h3⟩
      have H3 : Hid (Wrote w w3 b rv (ds ++ sampsD (l.take (k + 1)))) := Wrote.trans HK1.out HN1.out h3
      clear h3
      go_wp2_with fail
      exact ⟨⟨k + 1, by omega, by go_num, H3⟩, by (simp [intOf]) <;> omega⟩
    · have e : k = n := by omega
      have HF : Hid (Wrote w wr b rv D) := by
        have h1 := hwr.out
        rw [e, ← HN.out, List.take_length, ← HD.out] at h1
        exact h1
      subst e
      clear hwr
      go_wp2_with fail
      go_end0
      exact ⟨rfl, HF.out⟩

/-- What is put, or that it is not: then the writer holds anything. -/
def PutB (w w' : World) (b : Nat) (rv : Value) (ds : List Bool) (o : Option (List Bool)) (e : Ending) : Prop :=
  match o with
  | none => e = .returned (.bool false) ∧ ∃ ds', Wrote w w' b rv ds'
  | some D => e = .returned (.bool true) ∧ Wrote w w' b rv (ds ++ D)

set_option maxRecDepth 100000 in
set_option maxHeartbeats 4000000 in
theorem pconst_any (w : World) (b cap : Nat) (rv : Value) (ds : List Bool) (a : Option Addr) (l : List Int) (h : WrAt w b rv ds) (hl : Ns w a cap l) (ha : ∀ y, a = some y → ¬ Wf b rv y.block) (hm : mayX l) (hd : ds.length ≤ 1000) (o : Option (List Bool)) (ho : o = if allOne l then some (sampD (l.getD 0 0)) else none) :
    Calls Tryz.prog 51 #[.pointer (some ⟨b, 0, none⟩), .slice a l.length cap] w fun e w' => PutB w w' b rv ds o e := by
  have HW := hid_of h
  have HL := hid_of hl.at_
  have HA := hid_of ha
  have HS := hid_of hm.2.2
  have hl1 : 1 ≤ l.length := hm.1
  have hl64 : l.length ≤ 64 := hm.2.1
  have hcap : l.length ≤ cap := hl.le
  obtain ⟨x0, hx0⟩ : ∃ x, l[0]? = some x := ⟨l[0]'(by omega), by simp⟩
  have HX0 := hid_of (getD_of hx0)
  have HXS := hid_of (HS.out x0 (List.mem_of_getElem? hx0))
  obtain ⟨b0, o0, rfl, hc0⟩ := hl.at_ 0 x0 hx0
  rw [Nat.add_zero] at hc0
  have HC0 : Hid (IntsAt w (some ⟨b0, o0, none⟩) [x0]) := by
    intro j x hx
    cases j with
    | zero => simp at hx; subst hx; exact ⟨b0, o0, rfl, hc0⟩
    | succ j => simp at hx
  have HO := hid_of ho
  have hsl := slice_ints (some ⟨b0, o0, none⟩) l.length cap 1 (by omega)
  clear h hl ha hm ho hx0
  go_enter Tryz.func51, Tryz.ntmps51
  go_wp2_with fail
  go_loopw [9] (fun i wr => ∃ k : Nat, k ≤ l.length ∧ i = .int .i64 (k : Int) ∧ Hid (∀ v ∈ l.take k, v = x0) ∧ w = wr) (fun i _ => l.length - (intOf i).toNat)
  case atStart => exact ⟨0, Nat.zero_le _, rfl, fun v hv => by simp at hv, rfl⟩
  case round =>
    obtain ⟨k, hk, rfl, hall, rfl⟩ := hrel
    by_cases hkn : k < l.length
    · obtain ⟨x, hx⟩ : ∃ x, l[k]? = some x := ⟨l[k], by simp [hkn]⟩
      have hc : w.cell? ⟨b0, o0 + k, none⟩ = some (.int .i64 x) := by
        obtain ⟨b2, o2, e2, hc2⟩ := HL.out k x hx
        cases e2
        exact hc2
      by_cases hxe : x = x0
      · have hb : (x != x0) = false := by simp [hxe]
        have HA : Hid (∀ v ∈ l.take (k + 1), v = x0) := by
          intro v hv
          rw [take_next l k x hx] at hv
          rcases List.mem_append.1 hv with h | h
          · exact hall.out v h
          · simp at h; rw [h]; exact hxe
        clear hx hxe hall
        go_wp2_with fail
        exact ⟨⟨k + 1, by omega, by go_num, HA, by trivial⟩, by (simp [intOf]) <;> omega⟩
      · have hb : (x != x0) = true := by simp [hxe]
        have HN : Hid (o = none) := by
          show _ = _
          rw [HO.out]
          refine if_neg (fun h => hxe ?_)
          rw [h x (List.mem_of_getElem? hx), HX0.out]
        clear hx hxe hall
        go_wp2_with fail
        go_ret
        rw [HN.out]
        exact ⟨rfl, ds, Wrote.refl HW.out⟩
    · have e : k = l.length := by omega
      subst e
      have HS' : Hid (o = some (sampD x0)) := by
        show _ = _
        have h1 := hall.out
        rw [List.take_length] at h1
        have hAO : allOne l := fun v hv => by rw [HX0.out]; exact h1 v hv
        rw [HO.out, if_pos hAO, HX0.out]
      clear hall
      go_wp2_with fail
      refine (pputs_any w b 1 cap rv ds _ [x0] rfl HW.out HC0.out HA.out (fun v hv => by simp at hv; subst hv; exact HXS.out) (by omega) (by decide) (ds ++ sampD x0) (by simp [sampsD])).mono ?_
      rintro e w3 ⟨rfl, h3⟩
      have H3 := hid_of h3
      clear h3
      go_wp2_with fail
      go_ret
      rw [HS'.out]
      exact ⟨rfl, H3.out⟩

end Go.Proofs.YtlonnoapbfjomabGreat
