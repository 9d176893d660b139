/- The document's own digits of a frame, kind by kind. -/
import Derived.Test.YtlonnoapbfjomabGreatFrm1
import Derived.Test.YtlonnoapbfjomabGreatLpc4
import Derived.Test.YtlonnoapbfjomabGreatLev6
namespace Go.Proofs.YtlonnoapbfjomabGreat
set_option linter.unusedVariables false
set_option linter.unusedSimpArgs false
open Go.RowKit Dg

theorem mayZ_of {x : List Int} (h : mayX x) : 0 = mayZ x := by
  unfold mayZ
  rw [if_pos h.2.2, if_neg (by have := h.2.1; omega)]
theorem mayZ_not {x : List Int} (h1 : 1 ≤ x.length) (h : ¬ mayX x) : (mayZ x != 0) = true := by
  unfold mayZ
  by_cases hS : allS x
  · rw [if_pos hS]
    by_cases h64 : 64 < x.length
    · rw [if_pos h64]; rfl
    · exact absurd ⟨h1, by omega, hS⟩ h
  · rw [if_neg hS]; rfl
/-- What digits answers. -/
def DigAt (w w' : World) (F : Option (List Bool)) (e : Ending) : Prop :=
  match F with
  | none => ∃ v', e = .returned (.tuple #[v', .bool false]) ∧ Below w.heap.size w w'
  | some D => ∃ v', e = .returned (.tuple #[v', .bool true]) ∧ OfAt w w' v' D

set_option maxRecDepth 100000 in
set_option maxHeartbeats 4000000 in
theorem dig_bad (w : World) (kind : Int) (a : Option Addr) (cap : Nat) (l : List Int) (hl : IntsAt w a l) (hll : l.length ≤ 1000000) (hbad : ¬ mayX l ∨ kind < 0 ∨ 18 < kind) :
    Calls Tryz.prog 11 #[.int .i64 kind, .slice a l.length cap] w fun e w' => DigAt w w' none e := by
  have HL := hid_of hl
  clear hl
  obtain ⟨t, ht⟩ : ∃ t, t = mayZ l := ⟨_, rfl⟩
  have HT := hid_of ht
  rcases (by by_cases h1 : l.length < 1; exact .inl h1; by_cases h2 : mayX l; exact .inr (.inr ⟨by omega, by rw [ht, ← mayZ_of h2]; rfl, by rcases hbad with h | h; exact absurd h2 h; exact h⟩); exact .inr (.inl ⟨by omega, by rw [ht]; exact mayZ_not (by omega) h2⟩) : l.length < 1 ∨ (1 ≤ l.length ∧ (t != 0) = true) ∨ (1 ≤ l.length ∧ (t != 0) = false ∧ (kind < 0 ∨ 18 < kind))) with h1 | ⟨h1, h2⟩ | ⟨h1, h2, h3⟩
  · clear hbad ht
    go_enter Tryz.func11, Tryz.ntmps11
    go_wp2_with fail
    go_ret2
    exact ⟨_, rfl, Below.refl _ _⟩
  · clear hbad ht
    go_enter Tryz.func11, Tryz.ntmps11
    go_wp2_with (go_at_call 10; refine (rmay_any _ _ _ _ HL.out hll t HT.out).mono ?_; rintro e w1 ⟨rfl, rfl⟩)
    go_ret2
    exact ⟨_, rfl, Below.refl _ _⟩
  · clear hbad ht
    rcases (by omega : kind < 0 ∨ (0 ≤ kind ∧ 18 < kind)) with h4 | ⟨h4, h5⟩
    all_goals
      clear h3
      go_enter Tryz.func11, Tryz.ntmps11
      go_wp2_with (go_at_call 10; refine (rmay_any _ _ _ _ HL.out hll t HT.out).mono ?_; rintro e w1 ⟨rfl, rfl⟩)
      go_ret2
      exact ⟨_, rfl, Below.refl _ _⟩

set_option maxRecDepth 100000 in
set_option maxHeartbeats 4000000 in
theorem dig_const (w : World) (a : Option Addr) (cap : Nat) (l : List Int) (hl : IntsAt w a l) (hm : mayX l) (F : Option (List Bool)) (hF : F = if allOne l then some (headD 0 l.length ++ sampD (l.getD 0 0)) else none) :
    Calls Tryz.prog 11 #[.int .i64 0, .slice a l.length cap] w fun e w' => DigAt w w' F e := by
  have HL := hid_of hl
  have HT := hid_of (mayZ_of hm)
  have HS := hid_of hm.2.2
  have hl1 : 1 ≤ l.length := hm.1
  have hl64 : l.length ≤ 64 := hm.2.1
  obtain ⟨x0, hx0⟩ : ∃ x, l[0]? = some x := ⟨l[0]'(by omega), by simp⟩
  have HX0 := hid_of (getD_of hx0)
  have HXS := hid_of (HS.out x0 (List.mem_of_getElem? hx0))
  obtain ⟨b0, o0, rfl, hc0⟩ := hl 0 x0 hx0
  rw [Nat.add_zero] at hc0
  have HF := hid_of hF
  clear hl hm hF hx0
  go_enter Tryz.func11, Tryz.ntmps11
  go_wp2_with (go_at_call 10; refine (rmay_any _ _ _ _ HL.out (by omega) 0 HT.out).mono ?_; rintro e w1 ⟨rfl, rfl⟩)
  refine (rput_of w _ [] 0 8 (BtAt.none w) (by simp) (by decide) _ rfl).mono ?_
  rintro e w1 ⟨v1, rfl, h1⟩
  have H1 := hid_of h1
  clear h1
  go_wp2_with fail
  refine (rput_of w1 v1 _ (l.length : Int) 8 H1.out.bt (by simp) (by decide) (headD 0 l.length) (by simp [headD])).mono ?_
  rintro e w2 ⟨v2, rfl, h2⟩
  have H2 : Hid (OfAt w w2 v2 (headD 0 l.length)) := h2.low H1.out.2
  clear h2 H1
  go_wp2_with fail
  have hc2 : w2.cell? ⟨b0, o0, none⟩ = some (.int .i64 x0) := (H2.out.2.cell (p := ⟨b0, o0, none⟩) (World.block_lt_of_cell? w _ hc0)).trans hc0
  go_loopw [52] (fun i wr => ∃ k d : Nat, k ≤ l.length ∧ i = .int .i64 (k : Int) ∧ Hid (∀ v ∈ l.take k, v = x0) ∧ wr = w2.drewN d) (fun i _ => l.length - (intOf i).toNat)
  case atStart => exact ⟨0, 0, Nat.zero_le _, rfl, fun v hv => by simp at hv, rfl⟩
  case round =>
    obtain ⟨k, d, hk, rfl, hall, rfl⟩ := hrel
    by_cases hkn : k < l.length
    · obtain ⟨x, hx⟩ : ∃ x, l[k]? = some x := ⟨l[k], by simp [hkn]⟩
      have hc : w2.cell? ⟨b0, o0 + k, none⟩ = some (.int .i64 x) := by
        obtain ⟨b2, o2, e2, hc2⟩ := HL.out.mono H2.out.2 k x hx
        cases e2
        exact hc2
      by_cases hxe : x = x0
      · have hb : (x != x0) = false := by simp [hxe]
        have HA : Hid (∀ v ∈ l.take (k + 1), v = x0) := by
          intro v hv
          rw [take_next l k x hx] at hv
          rcases List.mem_append.1 hv with h | h
          · exact hall.out v h
          · simp at h; rw [h]; exact hxe
        clear hx hxe hall
        go_wp2_with fail
        go_quiet (fail)
        go_wp2_with fail
        exact ⟨⟨k + 1, d + nq, by omega, by go_num, HA, rfl⟩, by (simp [intOf]) <;> omega⟩
      · have hb : (x != x0) = true := by simp [hxe]
        have HN : Hid (F = none) := by
          show _ = _
          rw [HF.out]
          refine if_neg (fun h => hxe ?_)
          rw [h x (List.mem_of_getElem? hx), HX0.out]
        clear hx hxe hall
        go_wp2_with fail
        go_quiet (fail)
        go_wp2_with fail
        go_ret2
        rw [HN.out]
        exact ⟨_, rfl, below_drewN (below_drewN H2.out.2 d) nq⟩
    · have e : k = l.length := by omega
      subst e
      have HS' : Hid (F = some (headD 0 l.length ++ sampD x0)) := by
        show _ = _
        have h1 := hall.out
        rw [List.take_length] at h1
        have hAO : allOne l := fun v hv => by rw [HX0.out]; exact h1 v hv
        rw [HF.out, if_pos hAO, HX0.out]
      clear hall
      go_wp2_with fail
      refine (rsample_any (w2.drewN d) v2 (headD 0 l.length) x0 (H2.out.bt.drewN d) (by simp) HXS.out _ rfl).mono ?_
      rintro e w3 ⟨v3, rfl, h3⟩
      have H3 : Hid (OfAt w w3 v3 (headD 0 l.length ++ sampD x0)) := h3.low (below_drewN H2.out.2 d)
      clear h3
      go_wp2_with fail
      go_ret2
      rw [HS'.out]
      exact ⟨_, rfl, H3.out⟩

set_option maxRecDepth 100000 in
set_option maxHeartbeats 4000000 in
theorem dig_verb (w : World) (a : Option Addr) (cap : Nat) (l : List Int) (hl : IntsAt w a l) (hm : mayX l) :
    Calls Tryz.prog 11 #[.int .i64 1, .slice a l.length cap] w fun e w' => DigAt w w' (some (headD 1 l.length ++ sampsD l)) e := by
  have HL := hid_of hl
  have HT := hid_of (mayZ_of hm)
  have HS := hid_of hm.2.2
  have hl1 : 1 ≤ l.length := hm.1
  have hl64 : l.length ≤ 64 := hm.2.1
  clear hl hm
  go_enter Tryz.func11, Tryz.ntmps11
  go_wp2_with (go_at_call 10; refine (rmay_any _ _ _ _ HL.out (by omega) 0 HT.out).mono ?_; rintro e w1 ⟨rfl, rfl⟩)
  refine (rput_of w _ [] 1 8 (BtAt.none w) (by simp) (by decide) _ rfl).mono ?_
  rintro e w1 ⟨v1, rfl, h1⟩
  have H1 := hid_of h1
  clear h1
  go_wp2_with fail
  refine (rput_of w1 v1 _ (l.length : Int) 8 H1.out.bt (by simp) (by decide) (headD 1 l.length) (by simp [headD])).mono ?_
  rintro e w2 ⟨v2, rfl, h2⟩
  have H2 : Hid (OfAt w w2 v2 (headD 1 l.length)) := h2.low H1.out.2
  clear h2 H1
  go_wp2_with fail
  go_loopw [6, 74] (fun v i wr => ∃ k : Nat, k ≤ l.length ∧ i = .int .i64 (k : Int) ∧ Hid (OfAt w wr v (headD 1 l.length ++ sampsD (l.take k)))) (fun _ i _ => l.length - (intOf i).toNat)
  case atStart => exact ⟨0, Nat.zero_le _, rfl, by show OfAt _ _ _ _; simpa using H2.out⟩
  case round =>
    obtain ⟨k, hk, rfl, hof⟩ := hrel
    by_cases hkn : k < l.length
    · obtain ⟨x, hx⟩ : ∃ x, l[k]? = some x := ⟨l[k], by simp [hkn]⟩
      obtain ⟨b, off, rfl, hc⟩ := HL.out.mono hof.out.2 k x hx
      have HXS := hid_of (HS.out x (List.mem_of_getElem? hx))
      have HE : Hid (headD 1 l.length ++ sampsD (l.take (k + 1)) = headD 1 l.length ++ sampsD (l.take k) ++ sampD x) := by
        show _ = _
        rw [take_next l k x hx, sampsD_snoc, List.append_assoc]
      have hlen : (headD 1 l.length ++ sampsD (l.take k)).length ≤ 1000000 := by simp; omega
      have HBT := hid_of hof.out.bt
      have HB2 := hid_of hof.out.2
      clear hx
      go_wp2_with fail
      refine (rsample_any wr _ _ x HBT.out hlen HXS.out _ HE.out).mono ?_
      rintro e w3 ⟨v3, rfl, h3⟩
      have H3 : Hid (OfAt w w3 v3 (headD 1 l.length ++ sampsD (l.take (k + 1)))) := h3.low HB2.out
      clear h3
      go_wp2_with fail
      exact ⟨⟨k + 1, by omega, by go_num, H3⟩, by (simp [intOf]) <;> omega⟩
    · have e : k = l.length := by omega
      have HF : Hid (OfAt w wr u6 (headD 1 l.length ++ sampsD l)) := by
        have h1 := hof.out
        rw [e, List.take_length] at h1
        exact h1
      subst e
      clear hof
      go_wp2_with fail
      go_ret2
      exact ⟨_, rfl, HF.out⟩

end Go.Proofs.YtlonnoapbfjomabGreat
