/- RicePuts: the walk. -/
import Derived.Test.YtiimgkkagfbkmaaRice6
import Derived.Deep.CutRange
import Derived.Deep.RegionWith
namespace Go.Proofs.Ytiimgkkagfbkmaa
set_option linter.unusedVariables false
set_option linter.unusedSimpArgs false
open Go.RowKit Dg

/-- The document's digits have grown (or not), the writer is as it was. -/
structure MidAt (w wr : World) (b : Nat) (rv v : Value) (ds ds5 : List Bool) : Prop where
  wt : WrAt wr b rv ds
  bt : BtAt wr v ds5
  ap : ∀ i, v.ownBlock = some i → ¬ Wf b rv i
  bel : Below w.heap.size w wr

theorem MidAt.drew {w wr : World} {b : Nat} {rv v : Value} {ds ds5 : List Bool} (h : MidAt w wr b rv v ds ds5) : MidAt w wr.drew b rv v ds ds5 := ⟨h.wt.drew, h.bt.drew, h.ap, h.bel.drew⟩
theorem MidAt.drewN {w wr : World} {b : Nat} {rv v : Value} {ds ds5 : List Bool} (h : MidAt w wr b rv v ds ds5) (n : Nat) : MidAt w (wr.drewN n) b rv v ds ds5 := ⟨⟨h.wt.box, h.wt.own⟩, h.bt.drewN n, h.ap, below_drewN h.bel n⟩
theorem WroteAt.drew {w wr : World} {b : Nat} {rv v : Value} {ds : List Bool} (h : WroteAt w wr b rv v ds) : WroteAt w wr.drew b rv v ds := ⟨h.wt.drew, h.bt.drew, h.ap, h.bel.drew⟩
theorem MidAt.next {w wr w3 : World} {b : Nat} {rv v : Value} {ds ds5 : List Bool} (h : MidAt w wr b rv v ds ds5) (hwr : Wrote wr w3 b rv ds5) (hbw : w.heap.size ≤ b) : ∃ rv', WroteAt w w3 b rv' v ds5 := by
  obtain ⟨rv3, hw3, hk3, hn3⟩ := hwr
  have hfoot := h.wt.foot
  refine ⟨rv3, ⟨hw3, h.bt.kept hk3 (fun k hk hf => h.ap k hk hf), fun i hi hf => ?_, hk3.below_of h.bel (fun k hk => ?_) ?_⟩⟩
  · rcases hf with rfl | hf
    · exact h.ap _ hi (Or.inl rfl)
    · rcases hn3 i hf with h2 | h2
      · exact h.ap i hi (Or.inr h2)
      · have := h.bt.lt i hi; omega
  · have := (hfoot k hk).1; omega
  · have := h.wt.lt; omega

/-- What one number adds. -/
def addOf (z k : Int) : List Bool := if (isNum z && isPar k) = true then riceDig z k.toNat else []
theorem length_addOf (z k : Int) : (addOf z k).length ≤ 56 := by
  unfold addOf
  split
  · rename_i h
    simp only [Bool.and_eq_true] at h
    have := isNum_true h.1
    have := isPar_true h.2
    exact length_riceDig_le z k.toNat (by omega) (by omega)
  · simp

theorem put_step (w : World) (b : Nat) (rv : Value) (ds : List Bool) (z k : Int) (h : WrAt w b rv ds) (hlt : ds.length ≤ 900000) (ok : Bool) (hok : ok = (isNum z && isPar k)) (ds5 : List Bool) (hd : ds5 = ds ++ addOf z k) :
    Calls Try.prog 23 #[.pointer (some ⟨b, 0, none⟩), .int .i64 z, .int .i64 k] w fun e w' => e = .returned (.bool ok) ∧ Wrote w w' b rv ds5 := by
  cases ok with
  | false =>
    have e : ds5 = ds := by rw [hd]; simp [addOf, ← hok]
    subst e
    refine (ricePut_bad w _ z k hok.symm).mono ?_
    rintro e w' ⟨rfl, rfl⟩
    exact ⟨rfl, Wrote.refl h⟩
  | true =>
    have hh := hok.symm
    simp only [Bool.and_eq_true] at hh
    obtain ⟨hz, hk⟩ := hh
    have hk' := isPar_true hk
    have e : ds5 = ds ++ riceDig z k.toNat := by rw [hd]; simp [addOf, ← hok]
    have ek : k = (k.toNat : Int) := by omega
    subst e
    have := ricePut_any w b rv ds z k.toNat h (by omega) hz (by omega)
    rw [← ek] at this
    exact this

theorem rice_step (W w : World) (b : Nat) (rv v : Value) (ds : List Bool) (z k : Int) (h : WroteAt W w b rv v ds) (hlt : ds.length ≤ 900000) (hbw : W.heap.size ≤ b) (ok : Bool) (hok : ok = (isNum z && isPar k)) (ds5 : List Bool) (hd : ds5 = ds ++ addOf z k) :
    Calls Try.prog 22 #[v, .int .i64 z, .int .i64 k] w fun e w' => ∃ a c, e = .returned (.tuple #[.slice a ds5.length c, .bool ok]) ∧ MidAt W w' b rv (.slice a ds5.length c) ds ds5 := by
  cases ok with
  | false =>
    have e : ds5 = ds := by rw [hd]; simp [addOf, ← hok]
    subst e
    refine (rrice_bad w v z k hok.symm).mono ?_
    rintro e w' ⟨rfl, rfl⟩
    obtain ⟨a, c, rfl⟩ := h.bt.form
    exact ⟨a, c, rfl, ⟨h.wt, h.bt, h.ap, h.bel⟩⟩
  | true =>
    have hh := hok.symm
    simp only [Bool.and_eq_true] at hh
    obtain ⟨hz, hk⟩ := hh
    have hk' := isPar_true hk
    have e : ds5 = ds ++ riceDig z k.toNat := by rw [hd]; simp [addOf, ← hok]
    have ek : k = (k.toNat : Int) := by omega
    have hc := rrice_any w v ds z k.toNat h.bt (by omega) hz (by omega)
    rw [← ek, ← e] at hc
    refine hc.mono ?_
    rintro e w' ⟨v', rfl, ho, hb⟩
    obtain ⟨a, c, rfl⟩ := (BtAt.of_owns ho).form
    have hl := h.wt.lt
    refine ⟨a, c, rfl, ⟨h.wt.below hb, BtAt.of_owns ho, fun i hi hf => ?_, h.bel.trans (hb.mono (by omega))⟩⟩
    have h1 := ho.lt i hi
    have h2 := h.wt.foot i hf
    omega

set_option maxRecDepth 100000 in
set_option maxHeartbeats 8000000 in
theorem puts_any (W : World) (a0 : Option Addr) (len0 cap0 : Nat) (z0 : List Int) (a1 : Option Addr) (len1 cap1 : Nat) (z1 : List Int) (hr0 : IsRow .i64 W a0 len0 cap0 z0) (hr1 : IsRow .i64 W a1 len1 cap1 z1) :
    Calls Try.prog 7 #[.slice a0 len0 cap0, .slice a1 len1 cap1] W fun e W' => e = .returned (.bool true) ∧ Below W.heap.size W W' := by
  obtain ⟨l0, hl0, hI0, hat0, hle0, hm0, hnone0, hblk0⟩ := hr0.ints
  obtain ⟨l1, hl1, hI1, hat1, hle1, hm1, hnone1, hblk1⟩ := hr1.ints
  unfold maxLen at hm0 hm1
  subst hl0 hl1
  have HAT0 : Hid (IntsAt W a0 l0) := hat0
  have HAT1 : Hid (IntsAt W a1 l1) := hat1
  clear hat0 hat1 hI0 hI1 hnone0 hnone1 hblk0 hblk1 hr0 hr1
  go_enter Try.func7, Try.ntmps7
  go_wp2_with fail
  refine (newWriter_any _).mono ?_
  rintro e w1 ⟨rfl, hwa1, hb1, hs1⟩
  obtain ⟨b, hb⟩ : ∃ b, b = W.heap.size := ⟨_, rfl⟩
  rw [← hb] at hwa1 hs1 ⊢
  have HSB : Hid (b = W.heap.size) := hb
  have HA1 : Hid (WroteAt W w1 b (.slice none 0 0) (.slice none 0 0) []) := ⟨hwa1, Or.inl ⟨rfl, rfl⟩, fun i hi => by simp [Value.ownBlock] at hi, hb ▸ hb1⟩
  clear hwa1 hb1 hb
  go_wp2_with fail
  go_loopw [6, 7] (fun v i wr => ∃ (j : Nat) (ds : List Bool) (rv : Value), j ≤ 20 ∧ i = .int .i64 j ∧ Hid (ds.length ≤ j * 56) ∧ Hid (WroteAt W wr b rv v ds)) (fun _ i _ => 20 - (intOf i).toNat)
  case atStart => exact ⟨0, [], _, Nat.zero_le _, rfl, Nat.zero_le _, HA1.out⟩
  case round =>
    obtain ⟨j, ds, rv, hj20, rfl, hdl, hwt⟩ := hrel
    by_cases hlt : j < l0.length ∧ j < l1.length ∧ j < 20
    · obtain ⟨hj0, hj1, hj2⟩ := hlt
      obtain ⟨z, hz⟩ : ∃ x, l0[j]? = some x := ⟨l0[j], by simp [hj0]⟩
      obtain ⟨k, hk⟩ : ∃ x, l1[j]? = some x := ⟨l1[j], by simp [hj1]⟩
      obtain ⟨b0, o0, rfl, c0⟩ := HAT0.out j z hz
      obtain ⟨b1, o1, rfl, c1⟩ := HAT1.out j k hk
      have hb0 := World.block_lt_of_cell? W _ c0
      have hb1 := World.block_lt_of_cell? W _ c1
      have HC0 : Hid (∀ wx, Below W.heap.size W wx → wx.cell? ⟨b0, o0 + j, none⟩ = some (.int .i64 z)) := fun wx hx => by rw [hx.cell (p := ⟨b0, o0 + j, none⟩) hb0]; exact c0
      have HC1 : Hid (∀ wx, Below W.heap.size W wx → wx.cell? ⟨b1, o1 + j, none⟩ = some (.int .i64 k)) := fun wx hx => by rw [hx.cell (p := ⟨b1, o1 + j, none⟩) hb1]; exact c1
      clear c0 c1 hb0 hb1 hz hk HAT0 HAT1
      obtain ⟨ok, hok⟩ : ∃ ok, ok = (isNum z && isPar k) := ⟨_, rfl⟩
      obtain ⟨ds5, hds5⟩ : ∃ ds5, ds5 = ds ++ addOf z k := ⟨_, rfl⟩
      have hl5 : ds5.length ≤ (j + 1) * 56 := by
        have := length_addOf z k
        have := hdl.out
        rw [hds5]; simp; omega
      have HL5 : Hid (ds5.length ≤ (j + 1) * 56) := hl5
      have hdlt : ds.length ≤ 900000 := by have := hdl.out; omega
      have hbw : W.heap.size ≤ b := by have := HSB.out; omega
      have CR : Hid (∀ wx, WroteAt W wx b rv u6 ds → Calls Try.prog 22 #[u6, .int .i64 z, .int .i64 k] wx fun e w' => ∃ a c, e = .returned (.tuple #[.slice a ds5.length c, .bool ok]) ∧ MidAt W w' b rv (.slice a ds5.length c) ds ds5) :=
        fun wx hx => rice_step W wx b rv u6 ds z k hx hdlt hbw ok hok ds5 hds5
      have CP : Hid (∀ wx, WrAt wx b rv ds → Calls Try.prog 23 #[.pointer (some ⟨b, 0, none⟩), .int .i64 z, .int .i64 k] wx fun e w' => e = .returned (.bool ok) ∧ Wrote wx w' b rv ds5) :=
        fun wx hx => put_step wx b rv ds z k hx hdlt ok hok ds5 hds5
      have c0 := HC0.out wr hwt.out.bel
      have c1 := HC1.out wr hwt.out.bel
      clear hok hds5 hl5
      go_upto_region 9 with fail
      go_cut [6, 8] from 12 to 59 (fun v o wx => ∃ a c, v = .slice a ds5.length c ∧ o = .bool ok ∧ Hid (MidAt W wx b rv (.slice a ds5.length c) ds ds5))
      case first =>
        go_region_with (go_at_call 22; refine (CR.out _ hwt.out.drew).mono ?_; rintro e w2 ⟨a5, c5, rfl, hm2⟩; have HM2 : Hid (MidAt W w2 b rv (.slice a5 ds5.length c5) ds ds5) := hm2; clear hm2)
        all_goals (try go_wp2_with fail)
        all_goals go_meet
        all_goals exact ⟨a5, c5, rfl, rfl, HM2⟩
      case rest =>
        obtain ⟨a5, c5, rfl, rfl, HM⟩ := hcut
        have d0 := HC0.out wc HM.out.bel
        have d1 := HC1.out wc HM.out.bel
        clear c0 c1 CR
        go_upto_region 10 with fail
        go_cut [59] from 12 to 59 (fun s59 wx => s59 = .bool false ∧ ∃ rv5, Hid (WroteAt W wx b rv5 (.slice a5 ds5.length c5) ds5))
        case first =>
          go_region_with first
            | (go_at_call 23; refine (CP.out _ HM.out.drew.wt).mono ?_; rintro e w3 ⟨rfl, hwr3⟩; obtain ⟨rv5, hwt5⟩ := HM.out.drew.next hwr3 hbw; have HWT5 : Hid (WroteAt W w3 b rv5 (.slice a5 ds5.length c5) ds5) := hwt5; clear hwr3 hwt5)
            | (go_at_call 24; refine (len_any _ _ rv5 ds5 HWT5.out.wt).mono ?_; rintro e w4 ⟨rfl, rfl⟩)
          all_goals (try go_wp2_with fail)
          all_goals go_meet
          all_goals exact ⟨by simp, rv5, HWT5⟩
        case rest =>
          obtain ⟨rfl, rv5, HWT5⟩ := hcut
          go_wp2_with fail
          go_roundw
          case rel => first | exact ⟨j + 1, ds5, rv5, by omega, by go_num, HL5.out, HWT5.out⟩ | ((repeat apply Exists.intro); refine ⟨?_, rfl⟩; exact ⟨j + 1, ds5, rv5, by omega, by go_num, HL5.out, HWT5.out⟩)
          case measure => simp [intOf]; omega
    · have cs : l0.length ≤ j ∨ (j < l0.length ∧ decide (j < l1.length) = false) ∨ (j < l0.length ∧ j < l1.length ∧ j = 20) := by
        have e1 : j < l1.length ∨ decide (j < l1.length) = false := by
          by_cases h : j < l1.length
          · exact .inl h
          · exact .inr (by simp; omega)
        have e2 : j < 20 ∨ j = 20 := by omega
        by_cases h0 : j < l0.length
        · rcases e1 with e1 | e1
          · rcases e2 with e2 | e2
            · exact absurd ⟨h0, e1, e2⟩ hlt
            · exact .inr (.inr ⟨h0, e1, e2⟩)
          · exact .inr (.inl ⟨h0, e1⟩)
        · exact .inl (by omega)
      obtain ⟨a5, c5, hf5⟩ := hwt.out.bt.form
      subst hf5
      obtain ⟨l, hl⟩ : ∃ l, l = pack ds := ⟨_, rfl⟩
      have hll : l.length ≤ 1000 := by rw [hl, length_pack]; have := hdl.out; omega
      have HL : Hid (l = pack ds) := hl
      have hdlt : ds.length ≤ 900000 := by have := hdl.out; omega
      have hbw : W.heap.size ≤ b := by have := HSB.out; omega
      have hbr : b < wr.heap.size := hwt.out.wt.lt
      clear hl hlt HAT0 HAT1
      rcases cs with h0 | ⟨h0, h1⟩ | ⟨h0, h1, rfl⟩
      all_goals
        go_wp2_with fail
        refine (bytes_any wr b rv ds l HL.out hwt.out.wt (by omega)).mono ?_
        rintro e w6 ⟨rfl, hn6⟩
        have HN6 : Hid (NewBytes wr w6 l) := hn6
        have hs6 : wr.heap.size < w6.heap.size := (hn6.1.lt _ rfl).2
        have HW6 : Hid (WroteAt W w6 b rv (.slice a5 ds.length c5) ds) := hwt.out.below hn6.2 (by omega)
        clear hn6
        go_wp2_with fail
        refine (rbytes_any w6 _ ds l HL.out HW6.out.bt (by omega)).mono ?_
        rintro e w7 ⟨rfl, hn7⟩
        have HN7 : Hid (NewBytes w6 w7 l) := hn7
        have hs7 : w6.heap.size < w7.heap.size := (hn7.1.lt _ rfl).2
        have HB7 : Hid (Below W.heap.size W w7) := HW6.out.bel.trans (hn7.2.mono (by omega))
        clear hn7 HW6
        go_wp2_with fail
        refine (same_any w7 _ _ l ((SlAt.of_owns HN6.out.1).below HN7.out.2) (SlAt.of_owns HN7.out.1) (by omega)).mono ?_
        rintro e w8 ⟨rfl, n8, rfl⟩
        go_wp2_with fail
        refine (wakes_any _).mono ?_
        rintro e w9 ⟨rfl, rfl⟩
        go_wp2
        go_ret
        exact ⟨rfl, below_drewN HB7.out n8⟩

end Go.Proofs.Ytiimgkkagfbkmaa
