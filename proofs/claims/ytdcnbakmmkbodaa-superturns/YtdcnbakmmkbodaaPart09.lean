/- The texts SuBk, EachN, one behind the other. -/
import Derived.Test.YtdcnbakmmkbodaaPart08
import Derived.Test.YtdcnbakmmkbodaaPart04

/- SuperBack: the walk of the law, over the bundle. -/
namespace Go.Proofs.Ytdcnbakmmkbodaa
set_option linter.unusedVariables false
set_option linter.unusedSimpArgs false
open Go.RowKit Dg Cr

/-- What holds in the last test: the five superblocks' variables stay. -/
structure BkC (wC : World) (bx tx ax px qx : Nat) (y1 y1' y2 y3 y4 : Int) (wx : World) : Prop where
  bel : Below wC.heap.size wC wx
  b : wx.heap[bx]? = some (.cells #[.int .i64 y1, .int .i64 y2, .int .i64 y3, .int .i64 y4] 23 (0, 0))
  t : wx.heap[tx]? = some (.cells #[.int .i64 y1', .int .i64 y2, .int .i64 y3, .int .i64 y4] 23 (0, 0))
  a : wx.heap[ax]? = some (.cells #[.int .i64 y1, .int .i64 y2, .int .i64 y3, .int .i64 y4] 23 (0, 0))
  p : wx.heap[px]? = some (.cells #[.int .i64 y1', .int .i64 y2, .int .i64 y3, .int .i64 y4] 23 (0, 0))
  q : wx.heap[qx]? = some (.cells #[.int .i64 y1', .int .i64 y2, .int .i64 y3, .int .i64 y4] 23 (0, 0))
theorem BkC.next {wC : World} {bx tx ax px qx : Nat} {y1 y1' y2 y3 y4 : Int} {w w' : World} (h : BkC wC bx tx ax px qx y1 y1' y2 y3 y4 w) (hb : Below w.heap.size w w') : BkC wC bx tx ax px qx y1 y1' y2 y3 y4 w' :=
  ⟨h.bel.trans (hb.mono h.bel.size), (hb.block bx (Array.getElem?_eq_some_iff.1 h.b).1).trans h.b, (hb.block tx (Array.getElem?_eq_some_iff.1 h.t).1).trans h.t, (hb.block ax (Array.getElem?_eq_some_iff.1 h.a).1).trans h.a, (hb.block px (Array.getElem?_eq_some_iff.1 h.p).1).trans h.p, (hb.block qx (Array.getElem?_eq_some_iff.1 h.q).1).trans h.q⟩
set_option maxRecDepth 100000 in
set_option maxHeartbeats 16000000 in
theorem subk_any {Ok : World → Prop} (S : Sup Ok) (CH : SuChoose Ok) (NX : SuNext) (W : World) (hok : Ok W) (s : Su) (c0 t0 : Int) (hs : Su64 s) (hc : I64 c0) (ht : I64 t0) :
    Calls Try.prog 6 #[suV s, .int .i64 c0, .int .i64 t0] W fun e W' => e = .returned (.bool true) ∧ Below W.heap.size W W' := by
  obtain ⟨k, hk⟩ : ∃ k : Nat, (k : Int) = t0 % 1024 := ⟨(t0 % 1024).toNat, by omega⟩
  obtain ⟨p, hp⟩ : ∃ p : Nat, (p : Int) = c0 % 200 := ⟨(c0 % 200).toNat, by omega⟩
  have hk5 : k < 1024 := by omega
  have hp9 : p ≤ 199 := by omega
  have HWP : Hid (∀ w, Calls Try.prog 9 #[.int .i64 c0, .int .i64 200] w fun e w' => e = .returned (.int .i64 (p : Int)) ∧ w = w') := fun w => by rw [hp]; exact within_any c0 200 w hc.1 hc.2 (by decide) (by decide)
  have HWT : Hid (∀ w, Calls Try.prog 9 #[.int .i64 t0, .int .i64 1024] w fun e w' => e = .returned (.int .i64 (k : Int)) ∧ w = w') := fun w => by rw [hk]; exact within_any t0 1024 w ht.1 ht.2 (by decide) (by decide)
  have HSM : Hid (∀ w, Calls Try.prog 8 #[suV s] w fun e w' => e = .returned (suV (smallSu s)) ∧ Below w.heap.size w w') := fun w => small_any w s hs
  have HOK : Hid (∀ w, Below W.heap.size W w → Ok w) := fun w hw => S.okK hok ⟨hw.os, hw.tape, hw.output, hw.size, fun k hk _ => hw.block k hk⟩
  have HWK : Hid (∀ w, Below W.heap.size W w → Calls Try.prog 13 #[] w fun e w' => e = .returned (.bool true) ∧ Below w.heap.size w w') := fun w hw => wakes14_any S CH w (HOK.out w hw)
  have hin := smallSu_in s
  obtain ⟨⟨y1, y2, y3, y4⟩, hy⟩ : ∃ y, y = smallSu s := ⟨_, rfl⟩
  rw [← hy] at HSM hin
  (try simp only [] at hin)
  obtain ⟨⟨i1, i2⟩, ⟨i3, i4⟩, ⟨i5, i6⟩, ⟨i7, i8⟩⟩ := hin
  have hwr1 : IntKind.i64.wrap (1 + (p : Int)) = 1 + (p : Int) := wrap_of (by omega) (by omega)
  obtain ⟨y1', hy1'⟩ : ∃ y, y = y1 + 1 := ⟨_, rfl⟩
  have hwr2 : IntKind.i64.wrap (y1 + 1) = y1' := by rw [hy1']; exact wrap_of (by omega) (by omega)
  have HY1 := hid_of hy1'
  obtain ⟨c2, hc2⟩ : ∃ c, c = 1 + (p : Int) := ⟨_, rfl⟩
  have hgS : GoodSu ⟨y1, y2, y3, y4⟩ c2 := ⟨⟨by show 0 ≤ y1; omega, by show y1 < _; omega⟩, ⟨by show 0 ≤ y2; omega, by show y2 < _; omega⟩, ⟨by show 0 ≤ y3; omega, by show y3 < _; omega⟩, ⟨by show 0 ≤ y4; omega, by show y4 < _; omega⟩, ⟨by omega, by omega⟩⟩
  have hgT : GoodSu ⟨y1', y2, y3, y4⟩ c2 := ⟨⟨by show 0 ≤ y1'; omega, by show y1' < _; omega⟩, ⟨by show 0 ≤ y2; omega, by show y2 < _; omega⟩, ⟨by show 0 ≤ y3; omega, by show y3 < _; omega⟩, ⟨by show 0 ≤ y4; omega, by show y4 < _; omega⟩, ⟨by omega, by omega⟩⟩
  have hmS : maySu ⟨y1, y2, y3, y4⟩ c2 := ⟨⟨by show 1 ≤ y1; omega, by show y1 < _; omega⟩, ⟨by show 1 ≤ y2; omega, by show y2 < _; omega⟩, by show y3 < _; omega, by show y4 < _; omega, by omega, by omega⟩
  have hmT : maySu ⟨y1', y2, y3, y4⟩ c2 := ⟨⟨by show 1 ≤ y1'; omega, by show y1' < _; omega⟩, ⟨by show 1 ≤ y2; omega, by show y2 < _; omega⟩, by show y3 < _; omega, by show y4 < _; omega, by omega, by omega⟩
  have h64S : Su64 ⟨y1, y2, y3, y4⟩ := ⟨⟨by show _ ≤ y1; omega, by show y1 ≤ _; omega⟩, ⟨by show _ ≤ y2; omega, by show y2 ≤ _; omega⟩, ⟨by show _ ≤ y3; omega, by show y3 ≤ _; omega⟩, ⟨by show _ ≤ y4; omega, by show y4 ≤ _; omega⟩⟩
  have h64T : Su64 ⟨y1', y2, y3, y4⟩ := ⟨⟨by show _ ≤ y1'; omega, by show y1' ≤ _; omega⟩, ⟨by show _ ≤ y2; omega, by show y2 ≤ _; omega⟩, ⟨by show _ ≤ y3; omega, by show y3 ≤ _; omega⟩, ⟨by show _ ≤ y4; omega, by show y4 ≤ _; omega⟩⟩
  have hc64 : I64 c2 := ⟨by omega, by omega⟩
  obtain ⟨A, hA⟩ : ∃ A, A = packSu ⟨y1, y2, y3, y4⟩ c2 := ⟨_, rfl⟩
  obtain ⟨A2, hA2⟩ : ∃ A, A = packSu ⟨y1', y2, y3, y4⟩ c2 := ⟨_, rfl⟩
  have HAL : Hid ((A.length = 128 ∧ ∀ x ∈ A, x < 256) ∧ (A2.length = 128 ∧ ∀ x ∈ A2, x < 256)) := ⟨⟨by rw [hA]; exact length_packSu _ _, by rw [hA]; exact packSu_lt _ _⟩, ⟨by rw [hA2]; exact length_packSu _ _, by rw [hA2]; exact packSu_lt _ _⟩⟩
  have HP1 : Hid (∀ w, Below W.heap.size W w → Calls Try.prog 10 #[.agg #[.int .i64 y1, .int .i64 y2, .int .i64 y3, .int .i64 y4], .int .i64 c2] w fun e w' => ∃ g k, e = .returned (.slice (some ⟨g, 0, none⟩) 128 k) ∧ OwnBytes w' w.heap.size (.slice (some ⟨g, 0, none⟩) 128 k) A ∧ Below w.heap.size w w') := fun w hw => by
    have e := S.packB w ⟨y1, y2, y3, y4⟩ c2 (HOK.out w hw) h64S hc64
    rw [← hA] at e
    exact e
  have HP2 : Hid (∀ w, Below W.heap.size W w → Calls Try.prog 10 #[.agg #[.int .i64 y1', .int .i64 y2, .int .i64 y3, .int .i64 y4], .int .i64 c2] w fun e w' => ∃ g k, e = .returned (.slice (some ⟨g, 0, none⟩) 128 k) ∧ OwnBytes w' w.heap.size (.slice (some ⟨g, 0, none⟩) 128 k) A2 ∧ Below w.heap.size w w') := fun w hw => by
    have e := S.packB w ⟨y1', y2, y3, y4⟩ c2 (HOK.out w hw) h64T hc64
    rw [← hA2] at e
    exact e
  have HUN : Hid (∀ w g kk, Below W.heap.size W w → Bs w (some ⟨g, 0, none⟩) kk A → Calls Try.prog 19 #[.slice (some ⟨g, 0, none⟩) 128 kk] w fun e w' => e = .returned (.tuple #[.agg #[.int .i64 y1, .int .i64 y2, .int .i64 y3, .int .i64 y4], .int .i64 c2, .bool true]) ∧ Below w.heap.size w w') := fun w g kk hw hb => by
    have e := S.unpB w _ 128 kk A (HOK.out w hw) hb HAL.out.1.1 (by decide) HAL.out.1.2
    rw [show unpSu A = (⟨y1, y2, y3, y4⟩, c2, true) by rw [hA]; exact hgS.unp hmS] at e
    exact e
  have HC1 : Hid (∀ w g kk g2 kk2, Below W.heap.size W w → Bs w (some ⟨g, 0, none⟩) kk A → Bs w (some ⟨g2, 0, none⟩) kk2 A2 → Calls Try.prog 12 #[.slice (some ⟨g, 0, none⟩) 128 kk, .slice (some ⟨g2, 0, none⟩) 128 kk2] w fun e w' => e = .returned (.tuple #[.agg #[.int .i64 y1', .int .i64 y2, .int .i64 y3, .int .i64 y4], .int .i64 c2, .int .i64 1, .bool true]) ∧ Below w.heap.size w w') := fun w g kk g2 kk2 hw hb hb2 => by
    have e := CH w _ 128 kk A _ 128 kk2 A2 (HOK.out w hw) hb HAL.out.1.1 (by decide) HAL.out.1.2 hb2 HAL.out.2.1 (by decide) HAL.out.2.2
    rw [show chooseSu A A2 = (⟨y1', y2, y3, y4⟩, c2, 1, true) by rw [hA, hA2, hgS.choose hgT hmS hmT, if_neg (by show ¬ y1' ≤ y1; omega)]] at e
    exact e
  have HC2 : Hid (∀ w g kk g2 kk2, Below W.heap.size W w → Bs w (some ⟨g, 0, none⟩) kk A → Bs w (some ⟨g2, 0, none⟩) kk2 A2 → Calls Try.prog 12 #[.slice (some ⟨g2, 0, none⟩) 128 kk2, .slice (some ⟨g, 0, none⟩) 128 kk] w fun e w' => e = .returned (.tuple #[.agg #[.int .i64 y1', .int .i64 y2, .int .i64 y3, .int .i64 y4], .int .i64 c2, .int .i64 0, .bool true]) ∧ Below w.heap.size w w') := fun w g kk g2 kk2 hw hb hb2 => by
    have e := CH w _ 128 kk2 A2 _ 128 kk A (HOK.out w hw) hb2 HAL.out.2.1 (by decide) HAL.out.2.2 hb HAL.out.1.1 (by decide) HAL.out.1.2
    rw [show chooseSu A2 A = (⟨y1', y2, y3, y4⟩, c2, 0, true) by rw [hA, hA2, hgT.choose hgS hmT hmS, if_pos (by show y1 ≤ y1'; omega)]] at e
    exact e
  have HTU : Hid (∀ w g kk, Below W.heap.size W w → Bs w (some ⟨g, 0, none⟩) kk (turn A k) → Calls Try.prog 19 #[.slice (some ⟨g, 0, none⟩) 128 kk] w fun e w' => e = .returned (.tuple #[.agg #[.int .i64 0, .int .i64 0, .int .i64 0, .int .i64 0], .int .i64 0, .bool false]) ∧ Below w.heap.size w w') := fun w g kk hw hb => by
    have e := S.unpB w _ 128 kk (turn A k) (HOK.out w hw) hb (by rw [length_turn]; exact HAL.out.1.1) (by decide) (turn_lt A k HAL.out.1.2)
    rw [show unpSu (turn A k) = (⟨0, 0, 0, 0⟩, 0, false) by rw [hA]; exact unp_turn hk5] at e
    exact e
  have HNX : Hid (∀ w, (Calls Try.prog 11 #[.agg #[.int .i64 y1, .int .i64 y2, .int .i64 y3, .int .i64 y4]] w fun e w' => e = .returned (.int .i64 (y1 % 2)) ∧ Below w.heap.size w w') ∧ (Calls Try.prog 11 #[.agg #[.int .i64 y1', .int .i64 y2, .int .i64 y3, .int .i64 y4]] w fun e w' => e = .returned (.int .i64 (y1' % 2)) ∧ Below w.heap.size w w')) := fun w => by
    have e1 := NX w ⟨y1, y2, y3, y4⟩ h64S
    have e2 := NX w ⟨y1', y2, y3, y4⟩ h64T
    rw [show nextSu ⟨y1, y2, y3, y4⟩ = y1 % 2 by unfold nextSu; show max y1 0 % 2 = _; rw [show max y1 0 = y1 by omega]] at e1
    rw [show nextSu ⟨y1', y2, y3, y4⟩ = y1' % 2 by unfold nextSu; show max y1' 0 % 2 = _; rw [show max y1' 0 = y1' by omega]] at e2
    exact ⟨e1, e2⟩
  have hnn : (y1' % 2 == y1 % 2) = false := beq_eq_false_iff_ne.2 (by omega)
  have kq := su_equal
  obtain ⟨s1, s2, s3, s4⟩ := s
  clear hgS hgT hmS hmT h64S h64T hc64 hA hA2 hk hp hs hc ht hok hy hy1'
  unfold suV at HSM ⊢
  simp only [] at HSM ⊢
  obtain ⟨w0, hw0⟩ : ∃ w0, w0 = W.alloc (.cells #[.int .i64 s1, .int .i64 s2, .int .i64 s3, .int .i64 s4] 23) := ⟨_, rfl⟩
  obtain ⟨bx, hbx⟩ : ∃ bx, bx = W.heap.size := ⟨_, rfl⟩
  have hb0 : Below W.heap.size W w0 := by rw [hw0]; exact (Below.refl _ _).alloc (Nat.le_refl _) _
  have HX0 : Hid (SuAt w0 bx ⟨s1, s2, s3, s4⟩) := by show w0.heap[bx]? = _; rw [hw0, hbx]; exact heap_alloc_new W _
  have HB0 := hid_of hb0
  have HBX : Hid (W.heap.size ≤ bx) := by show _ ≤ _; omega
  obtain ⟨⟨k0, k1, k2, k3⟩, -⟩ := box4 HX0.out
  go_enter Try.func6, Try.ntmps6
  go_upto_region 1 with fail
  rw [← hw0, ← hbx]
  clear hw0 hbx hb0
  go_wp2_with fail
  refine (HSM.out _).mono ?_
  rintro e w1 ⟨rfl, hb1⟩
  have HX1 : Hid (SuAt w1 bx ⟨s1, s2, s3, s4⟩) := HX0.out.below hb1
  have HB1 : Hid (Below W.heap.size W w1) := HB0.out.trans (hb1.mono HB0.out.size)
  clear hb1 k0 k1 k2 k3 HX0 HB0 HSM
  go_wp2_with fail
  refine (HWP.out _).mono ?_
  rintro e w' ⟨rfl, rfl⟩
  obtain ⟨⟨k0, k1, k2, k3⟩, mf, f1, f2, f3, HST⟩ := box4 HX1.out
  have hput := HX1.out.put (t := ⟨y1, y2, y3, y4⟩)
  obtain ⟨w2, hw2⟩ : ∃ w2, w2 = put4W w1 bx ⟨y1, y2, y3, y4⟩ := ⟨_, rfl⟩
  rw [← hw2] at hput
  have HX2 : Hid (SuAt w2 bx ⟨y1, y2, y3, y4⟩) := hput.1
  have HB2 : Hid (Below W.heap.size W w2) := hput.2.below_of HB1.out (fun k e => by subst e; exact HBX.out) HB1.out.size
  unfold put4W at hw2
  simp only [] at hw2
  go_upto_region 2 with fail
  rw [← hw2, ← hc2]
  clear hc2 hw2 hput k0 k1 k2 k3 mf f1 f2 f3 HST HX1 HB1 HWP hwr1
  obtain ⟨⟨k0, k1, k2, k3⟩, -⟩ := box4 HX2.out
  obtain ⟨w3, hw3⟩ : ∃ w3, w3 = w2.alloc (.cells #[.int .i64 y1', .int .i64 y2, .int .i64 y3, .int .i64 y4] 23) := ⟨_, rfl⟩
  obtain ⟨tx, htx⟩ : ∃ tx, tx = w2.heap.size := ⟨_, rfl⟩
  have hb3 : Below w2.heap.size w2 w3 := by rw [hw3]; exact (Below.refl _ _).alloc (Nat.le_refl _) _
  have HX3 : Hid (SuAt w3 bx ⟨y1, y2, y3, y4⟩ ∧ SuAt w3 tx ⟨y1', y2, y3, y4⟩) := ⟨HX2.out.below hb3, by unfold SuAt; rw [hw3, htx]; exact heap_alloc_new w2 _⟩
  have HB3 : Hid (Below W.heap.size W w3) := HB2.out.trans (hb3.mono HB2.out.size)
  go_upto_region 4 with fail
  rw [← hw3, ← htx]
  clear hw3 htx hb3 k0 k1 k2 k3 HX2 HB2 hwr2
  go_cut [8, 9] from 35 to 40 (fun va vb wx => ∃ g1 kk1 g2 kk2, va = .slice (some ⟨g1, 0, none⟩) 128 kk1 ∧ vb = .slice (some ⟨g2, 0, none⟩) 128 kk2 ∧ Hid (wx.ownsRow W.heap.size 5 1 (.slice (some ⟨g1, 0, none⟩) 128 kk1) 128 (u8s A) ∧ Bs wx (some ⟨g2, 0, none⟩) kk2 A2) ∧ Hid (SuAt wx bx ⟨y1, y2, y3, y4⟩ ∧ SuAt wx tx ⟨y1', y2, y3, y4⟩) ∧ Hid (Below W.heap.size W wx) ∧ Hid (W.heap.size ≤ g1 ∧ g1 ≠ bx ∧ g1 ≠ tx))
  case first =>
    obtain ⟨⟨k0, k1, k2, k3⟩, -⟩ := box4 HX3.out.1
    obtain ⟨⟨j0, j1, j2, j3⟩, -⟩ := box4 HX3.out.2
    have HBd : Hid (∀ d, Below W.heap.size W (w3.drewN d)) := fun d => below_drewN HB3.out d
    go_region_with (first
      | (go_at_call_of 10 (Value.agg #[.int .i64 y1, .int .i64 y2, .int .i64 y3, .int .i64 y4]); refine (HP1.out _ (HBd.out 1)).mono ?_; rintro e w4 ⟨g1, kk1, rfl, ho1, hb1'⟩; have hb1 : Below w3.heap.size w3 w4 := ⟨hb1'.os, hb1'.tape, hb1'.output, hb1'.size, hb1'.block⟩; have HX4 : Hid (SuAt w4 bx ⟨y1, y2, y3, y4⟩ ∧ SuAt w4 tx ⟨y1', y2, y3, y4⟩) := ⟨HX3.out.1.below hb1, HX3.out.2.below hb1⟩; have HB4 : Hid (Below W.heap.size W w4) := HB3.out.trans (hb1.mono HB3.out.size); have HO1 : Hid (OwnBytes w4 w3.heap.size (.slice (some ⟨g1, 0, none⟩) 128 kk1) A) := ho1; obtain ⟨⟨a0, a1, a2, a3⟩, -⟩ := box4 HX4.out.2; clear hb1 hb1' ho1)
      | (go_at_call_of 10 (Value.agg #[.int .i64 y1', .int .i64 y2, .int .i64 y3, .int .i64 y4]); refine (HP2.out _ HB4.out).mono ?_; rintro e w5 ⟨g2, kk2, rfl, ho2, hb2⟩; have HX5 : Hid (SuAt w5 bx ⟨y1, y2, y3, y4⟩ ∧ SuAt w5 tx ⟨y1', y2, y3, y4⟩) := ⟨HX4.out.1.below hb2, HX4.out.2.below hb2⟩; have HB5 : Hid (Below W.heap.size W w5) := HB4.out.trans (hb2.mono HB4.out.size); have HO2 : Hid (OwnBytes w5 w3.heap.size (.slice (some ⟨g1, 0, none⟩) 128 kk1) A ∧ Bs w5 (some ⟨g2, 0, none⟩) kk2 A2) := ⟨ownsRow_other HO1.out (Kept.of_below (F := fun _ => False) hb2) (fun _ _ h => h), bs_own ho2⟩; clear hb2 ho2))
    all_goals (try go_wp2_with fail)
    all_goals go_meet
    all_goals
      have hg := World.ownsRow.lt HO2.out.1 g1 rfl
      have hb3l := HX3.out.1.lt
      have ht3l := HX3.out.2.lt
      have hs3 := HB3.out.size
      have ho : w5.ownsRow w3.heap.size 5 1 (.slice (some ⟨g1, 0, none⟩) 128 kk1) 128 (u8s A) := by have e : w5.ownsRow _ _ _ _ A.length _ := HO2.out.1; rw [HAL.out.1.1] at e; exact e
      exact ⟨_, _, _, _, rfl, rfl, ⟨ownsRow_base ho hs3, HO2.out.2⟩, HX5.out, HB5.out, ⟨by omega, by omega, by omega⟩⟩
  case rest =>
    obtain ⟨g1, kk1, g2, kk2, rfl, rfl, HO, HX, HB, HG⟩ := hcut
    clear HX3 HB3 HP1 HP2
    have HU1 := hid_of (HUN.out wc g1 kk1 HB.out (Bs.ofo HO.out.1))
    go_wp2_with fail
    refine HU1.out.mono ?_
    rintro e w6 ⟨rfl, hb6⟩
    obtain ⟨wA, hwA⟩ : ∃ wA, wA = w6.alloc (.cells #[.int .i64 y1, .int .i64 y2, .int .i64 y3, .int .i64 y4] 23) := ⟨_, rfl⟩
    obtain ⟨ax, hax⟩ : ∃ ax, ax = w6.heap.size := ⟨_, rfl⟩
    have hbA : Below wc.heap.size wc wA := by rw [hwA]; exact hb6.alloc hb6.size _
    have HXA : Hid (SuAt wA bx ⟨y1, y2, y3, y4⟩ ∧ SuAt wA tx ⟨y1', y2, y3, y4⟩ ∧ SuAt wA ax ⟨y1, y2, y3, y4⟩) := ⟨HX.out.1.below hbA, HX.out.2.below hbA, by unfold SuAt; rw [hwA, hax]; exact heap_alloc_new w6 _⟩
    have HBA : Hid (Below W.heap.size W wA) := HB.out.trans (hbA.mono HB.out.size)
    have HOA : Hid (wA.ownsRow W.heap.size 5 1 (.slice (some ⟨g1, 0, none⟩) 128 kk1) 128 (u8s A) ∧ Bs wA (some ⟨g2, 0, none⟩) kk2 A2) := ⟨ownsRow_other HO.out.1 (Kept.of_below (F := fun _ => False) hbA) (fun _ _ h => h), HO.out.2.below hbA⟩
    have HU2 := hid_of (HC1.out wA g1 kk1 g2 kk2 HBA.out (Bs.ofo HOA.out.1) HOA.out.2)
    go_upto_region 6 with fail
    rw [← hwA, ← hax]
    clear hwA hax hbA hb6 HU1 HX HB HO
    go_wp2_with fail
    refine HU2.out.mono ?_
    rintro e w7 ⟨rfl, hb7⟩
    obtain ⟨wB, hwB⟩ : ∃ wB, wB = w7.alloc (.cells #[.int .i64 y1', .int .i64 y2, .int .i64 y3, .int .i64 y4] 23) := ⟨_, rfl⟩
    obtain ⟨px, hpx⟩ : ∃ px, px = w7.heap.size := ⟨_, rfl⟩
    have hbB : Below wA.heap.size wA wB := by rw [hwB]; exact hb7.alloc hb7.size _
    have HXB : Hid (SuAt wB bx ⟨y1, y2, y3, y4⟩ ∧ SuAt wB tx ⟨y1', y2, y3, y4⟩ ∧ SuAt wB ax ⟨y1, y2, y3, y4⟩ ∧ SuAt wB px ⟨y1', y2, y3, y4⟩) := ⟨HXA.out.1.below hbB, HXA.out.2.1.below hbB, HXA.out.2.2.below hbB, by unfold SuAt; rw [hwB, hpx]; exact heap_alloc_new w7 _⟩
    have HBB : Hid (Below W.heap.size W wB) := HBA.out.trans (hbB.mono HBA.out.size)
    have HOB : Hid (wB.ownsRow W.heap.size 5 1 (.slice (some ⟨g1, 0, none⟩) 128 kk1) 128 (u8s A) ∧ Bs wB (some ⟨g2, 0, none⟩) kk2 A2) := ⟨ownsRow_other HOA.out.1 (Kept.of_below (F := fun _ => False) hbB) (fun _ _ h => h), HOA.out.2.below hbB⟩
    have HU3 := hid_of (HC2.out wB g1 kk1 g2 kk2 HBB.out (Bs.ofo HOB.out.1) HOB.out.2)
    go_upto_region 7 with fail
    rw [← hwB, ← hpx]
    clear hwB hpx hbB hb7 HU2 HXA HBA HOA
    go_wp2_with fail
    refine HU3.out.mono ?_
    rintro e w8 ⟨rfl, hb8⟩
    obtain ⟨wC, hwC⟩ : ∃ wC, wC = w8.alloc (.cells #[.int .i64 y1', .int .i64 y2, .int .i64 y3, .int .i64 y4] 23) := ⟨_, rfl⟩
    obtain ⟨qx, hqx⟩ : ∃ qx, qx = w8.heap.size := ⟨_, rfl⟩
    have hbC : Below wB.heap.size wB wC := by rw [hwC]; exact hb8.alloc hb8.size _
    have HXC : Hid (SuAt wC bx ⟨y1, y2, y3, y4⟩ ∧ SuAt wC tx ⟨y1', y2, y3, y4⟩ ∧ SuAt wC ax ⟨y1, y2, y3, y4⟩ ∧ SuAt wC px ⟨y1', y2, y3, y4⟩ ∧ SuAt wC qx ⟨y1', y2, y3, y4⟩) := ⟨HXB.out.1.below hbC, HXB.out.2.1.below hbC, HXB.out.2.2.1.below hbC, HXB.out.2.2.2.below hbC, by unfold SuAt; rw [hwC, hqx]; exact heap_alloc_new w8 _⟩
    have HBC : Hid (Below W.heap.size W wC) := HBB.out.trans (hbC.mono HBB.out.size)
    have HOC : Hid (wC.ownsRow W.heap.size 5 1 (.slice (some ⟨g1, 0, none⟩) 128 kk1) 128 (u8s A)) := ownsRow_other HOB.out.1 (Kept.of_below (F := fun _ => False) hbC) (fun _ _ h => h)
    go_upto_region 8 with fail
    rw [← hwC, ← hqx]
    clear hwC hqx hbC hb8 HU3 HXB HBB HOB
    have hCC : BkC wC bx tx ax px qx y1 y1' y2 y3 y4 wC.drew := ⟨(Below.refl _ _).drew, HXC.out.1, HXC.out.2.1, HXC.out.2.2.1, HXC.out.2.2.2.1, HXC.out.2.2.2.2⟩
    have HCC := hid_of hCC
    clear hCC
    go_cut [107] from 63 to 107 (fun v wx => v = .bool false ∧ Below wC.heap.size wC wx)
    case first =>
      have lb0 : ∀ w, BkC wC bx tx ax px qx y1 y1' y2 y3 y4 w → w.cell? ⟨bx, 0, none⟩ = some (.int .i64 y1) := fun w h => (box4 h.b).1.1
      have lb1 : ∀ w, BkC wC bx tx ax px qx y1 y1' y2 y3 y4 w → w.cell? ⟨bx, 1, none⟩ = some (.int .i64 y2) := fun w h => (box4 h.b).1.2.1
      have lb2 : ∀ w, BkC wC bx tx ax px qx y1 y1' y2 y3 y4 w → w.cell? ⟨bx, 2, none⟩ = some (.int .i64 y3) := fun w h => (box4 h.b).1.2.2.1
      have lb3 : ∀ w, BkC wC bx tx ax px qx y1 y1' y2 y3 y4 w → w.cell? ⟨bx, 3, none⟩ = some (.int .i64 y4) := fun w h => (box4 h.b).1.2.2.2
      have lt0 : ∀ w, BkC wC bx tx ax px qx y1 y1' y2 y3 y4 w → w.cell? ⟨tx, 0, none⟩ = some (.int .i64 y1') := fun w h => (box4 h.t).1.1
      have lt1 : ∀ w, BkC wC bx tx ax px qx y1 y1' y2 y3 y4 w → w.cell? ⟨tx, 1, none⟩ = some (.int .i64 y2) := fun w h => (box4 h.t).1.2.1
      have lt2 : ∀ w, BkC wC bx tx ax px qx y1 y1' y2 y3 y4 w → w.cell? ⟨tx, 2, none⟩ = some (.int .i64 y3) := fun w h => (box4 h.t).1.2.2.1
      have lt3 : ∀ w, BkC wC bx tx ax px qx y1 y1' y2 y3 y4 w → w.cell? ⟨tx, 3, none⟩ = some (.int .i64 y4) := fun w h => (box4 h.t).1.2.2.2
      have la0 : ∀ w, BkC wC bx tx ax px qx y1 y1' y2 y3 y4 w → w.cell? ⟨ax, 0, none⟩ = some (.int .i64 y1) := fun w h => (box4 h.a).1.1
      have la1 : ∀ w, BkC wC bx tx ax px qx y1 y1' y2 y3 y4 w → w.cell? ⟨ax, 1, none⟩ = some (.int .i64 y2) := fun w h => (box4 h.a).1.2.1
      have la2 : ∀ w, BkC wC bx tx ax px qx y1 y1' y2 y3 y4 w → w.cell? ⟨ax, 2, none⟩ = some (.int .i64 y3) := fun w h => (box4 h.a).1.2.2.1
      have la3 : ∀ w, BkC wC bx tx ax px qx y1 y1' y2 y3 y4 w → w.cell? ⟨ax, 3, none⟩ = some (.int .i64 y4) := fun w h => (box4 h.a).1.2.2.2
      have lp0 : ∀ w, BkC wC bx tx ax px qx y1 y1' y2 y3 y4 w → w.cell? ⟨px, 0, none⟩ = some (.int .i64 y1') := fun w h => (box4 h.p).1.1
      have lp1 : ∀ w, BkC wC bx tx ax px qx y1 y1' y2 y3 y4 w → w.cell? ⟨px, 1, none⟩ = some (.int .i64 y2) := fun w h => (box4 h.p).1.2.1
      have lp2 : ∀ w, BkC wC bx tx ax px qx y1 y1' y2 y3 y4 w → w.cell? ⟨px, 2, none⟩ = some (.int .i64 y3) := fun w h => (box4 h.p).1.2.2.1
      have lp3 : ∀ w, BkC wC bx tx ax px qx y1 y1' y2 y3 y4 w → w.cell? ⟨px, 3, none⟩ = some (.int .i64 y4) := fun w h => (box4 h.p).1.2.2.2
      have lq0 : ∀ w, BkC wC bx tx ax px qx y1 y1' y2 y3 y4 w → w.cell? ⟨qx, 0, none⟩ = some (.int .i64 y1') := fun w h => (box4 h.q).1.1
      have lq1 : ∀ w, BkC wC bx tx ax px qx y1 y1' y2 y3 y4 w → w.cell? ⟨qx, 1, none⟩ = some (.int .i64 y2) := fun w h => (box4 h.q).1.2.1
      have lq2 : ∀ w, BkC wC bx tx ax px qx y1 y1' y2 y3 y4 w → w.cell? ⟨qx, 2, none⟩ = some (.int .i64 y3) := fun w h => (box4 h.q).1.2.2.1
      have lq3 : ∀ w, BkC wC bx tx ax px qx y1 y1' y2 y3 y4 w → w.cell? ⟨qx, 3, none⟩ = some (.int .i64 y4) := fun w h => (box4 h.q).1.2.2.2
      refine wp_region_cls (C := BkC wC bx tx ax px qx y1 y1' y2 y3 y4) (by kernel_rfl) (by kernel_rfl) HCC.out ?_
      repeat (first
        | go_big_quiet_skip
        | (go_big_quiet_want; go_big_quiet_op; first
           | go_big_quiet_on
           | (refine ⟨_, fun _ _ => rfl, ?_⟩; go_big_quiet_on)
           | (apply Exists.intro
              refine ⟨fun wq hq => ?_, ?_⟩
              · first
               | (go_at_call_of 11 (Value.agg #[.int .i64 y1, .int .i64 y2, .int .i64 y3, .int .i64 y4]); exact (HNX.out wq).1.mono fun e w' ⟨e1, e2⟩ => ⟨e1, hq.next e2⟩)
               | (go_at_call_of 11 (Value.agg #[.int .i64 y1', .int .i64 y2, .int .i64 y3, .int .i64 y4]); exact (HNX.out wq).2.mono fun e w' ⟨e1, e2⟩ => ⟨e1, hq.next e2⟩)
               | (simp only [lb0 wq hq, lb1 wq hq, lb2 wq hq, lb3 wq hq, lt0 wq hq, lt1 wq hq, lt2 wq hq, lt3 wq hq, la0 wq hq, la1 wq hq, la2 wq hq, la3 wq hq, lp0 wq hq, lp1 wq hq, lp2 wq hq, lp3 wq hq, lq0 wq hq, lq1 wq hq, lq2 wq hq, lq3 wq hq, Result.andThen_ok]; first | exact ⟨rfl, rfl⟩ | exact ⟨trivial, rfl⟩ | exact ⟨trivial, trivial⟩)
              go_big_quiet_on)))
      refine wpQuiet_nil ?_
      intro wq hq
      clear lb0 lb1 lb2 lb3 lt0 lt1 lt2 lt3 la0 la1 la2 la3 lp0 lp1 lp2 lp3 lq0 lq1 lq2 lq3
      go_wp2_with fail
      go_meet
      exact ⟨rfl, hq.bel⟩
    case rest =>
      obtain ⟨rfl, hbD⟩ := hcut
      have HBD : Hid (Below W.heap.size W wc) := HBC.out.trans (hbD.mono HBC.out.size)
      have HOD : Hid (wc.ownsRow W.heap.size 5 1 (.slice (some ⟨g1, 0, none⟩) 128 kk1) 128 (u8s A)) := ownsRow_other HOC.out (Kept.of_below (F := fun _ => False) hbD) (fun _ _ h => h)
      clear HXC HBC HOC HNX hnn hbD HCC
      have hin : k / 8 < 128 := by omega
      obtain ⟨c, hc⟩ : ∃ c, A[k / 8]? = some c := ⟨A[k / 8]'(by rw [HAL.out.1.1]; exact hin), by simp⟩
      have hc256 : c < 256 := HAL.out.1.2 c (List.mem_of_getElem? hc)
      obtain ⟨hrc, hrf⟩ := own_cell HOD.out hc
      have HF : Hid (bits BinOp.xor IntKind.u8 (c : Int) (128 / 2 ^ (k % 8)) = ((flip c k : Nat) : Int)) := flip_num c k hc256
      have hset := own_set HOD.out (k / 8) (flip c k) hin
      have HT : Hid (A.set (k / 8) (flip c k) = turn A k) := by
        show _ = _
        unfold turn
        simp [List.getD, hc]
      rw [HT.out] at hset
      obtain ⟨wE, hwE⟩ : ∃ wE, wE = wc.setCell ⟨g1, k / 8, none⟩ (.int .u8 ((flip c k : Nat) : Int)) := ⟨_, rfl⟩
      rw [← hwE] at hset
      have HBE : Hid (Below W.heap.size W wE) := by
        have hk : Kept (fun k => k = g1) wc wE := by rw [hwE]; exact Kept.setCell _ _ _ rfl
        exact hk.below_of HBD.out (fun k e => by subst e; exact HG.out.1) HBD.out.size
      have HU := hid_of (HTU.out wE g1 kk1 HBE.out (Bs.ofo hset))
      have HWE : Hid (wc.setCell ⟨g1, k / 8, none⟩ (.int .u8 ((flip c k : Nat) : Int)) = wE) := hwE.symm
      clear hset hc hwE HT HTU HUN HC1 HC2
      go_wp2_with fail
      refine (HWT.out _).mono ?_
      rintro e w' ⟨rfl, rfl⟩
      go_upto_region 12 with fail
      rw [HF.out, HWE.out]
      clear hrc hrf
      go_wp2_with fail
      refine HU.out.mono ?_
      rintro e w9 ⟨rfl, hb9⟩
      obtain ⟨wF, hwF⟩ : ∃ wF, wF = w9.alloc (.cells #[.int .i64 0, .int .i64 0, .int .i64 0, .int .i64 0] 23) := ⟨_, rfl⟩
      have hbF : Below wE.heap.size wE wF := by rw [hwF]; exact hb9.alloc hb9.size _
      have HBF : Hid (Below W.heap.size W wF) := HBE.out.trans (hbF.mono HBE.out.size)
      have HWF := hid_of (HWK.out wF HBF.out)
      go_upto_region 13 with fail
      rw [← hwF]
      clear hwF hbF hb9 HU
      go_wp2_with fail
      refine HWF.out.mono ?_
      rintro e wG ⟨rfl, hbG⟩
      have HBG : Hid (Below W.heap.size W wG) := HBF.out.trans (hbG.mono HBF.out.size)
      clear hbG
      go_wp2_with fail
      go_ret
      exact ⟨rfl, HBG.out⟩

end Go.Proofs.Ytdcnbakmmkbodaa

/- A region that draws its order, walked operation by operation, where it matters what has not run yet; no program. The invariant S sees the results; an operation knows that its own is undef before it. -/
namespace Go.Proofs.Ytdcnbakmmkbodaa
set_option linter.unusedVariables false
set_option linter.unusedSimpArgs false

/-- What an operation must leave: Le tells which one ran. -/
def EachQN (A : (Nat → Value) → Act) (R : Nat → Value → World → Prop) (Le : Nat → World → World → Prop) (S : (Nat → Value) → World → Prop) (i : Nat) (vs : Nat → Value) (w : World) : Exit → Act → World → Prop :=
  fun e a' w' => e = .normal ∧ ∃ v, a' = A (upd vs i v) ∧ R i v w' ∧ Le i w w' ∧ S (upd vs i v) w'
/-- All of them: each may know that it has not run (N). -/
def EachOpN (P : Program) (ops : Array Oper) (A : (Nat → Value) → Act) (R : Nat → Value → World → Prop) (Le : Nat → World → World → Prop) (S : (Nat → Value) → World → Prop) : Nat → List Oper → Prop
  | _, [] => True
  | i, o :: rest => (∀ vs w, S vs w → vs i = undef → EachD R vs w o.after.toList → wpList P ops (EachQN A R Le S i vs w) [o] (A vs) w) ∧ EachOpN P ops A R Le S (i + 1) rest
section
variable {P : Program} {ops : Array Oper} {A : (Nat → Value) → Act} {R : Nat → Value → World → Prop} {Le : Nat → World → World → Prop} {S : (Nat → Value) → World → Prop}
theorem EachOpN.at : ∀ {l : List Oper} {k i : Nat} {o : Oper}, EachOpN P ops A R Le S k l → l[i]? = some o → ∀ vs w, S vs w → vs (k + i) = undef → EachD R vs w o.after.toList → wpList P ops (EachQN A R Le S (k + i) vs w) [o] (A vs) w
  | [], _, _, _, _, h => by simp at h
  | o :: rest, k, 0, _, h, e => by cases e; exact h.1
  | o :: rest, k, i + 1, _, h, e => by
    have := EachOpN.at (l := rest) (k := k + 1) (i := i) h.2 (by simpa using e)
    rw [show k + (i + 1) = k + 1 + i by omega]
    exact this
theorem each_anyN {Q : Exit → Act → World → Prop} (hstep : EachOpN P ops A R Le S 0 ops.toList) (hlow : eachLow ops.toList = true) (hmono : ∀ i j v w w', j ≠ i → R j v w → Le i w w' → R j v w')
    (hend : ∀ vs w, S vs w → (∀ i, i < ops.size → R i (vs i) w) → Q .normal (A vs) w) :
    ∀ (fuel : Nat) (listed : Array Bool) (vs : Nat → Value) (w : World), eachLeft ops.size listed ≤ fuel → listed.size = ops.size → S vs w → (∀ i, i < ops.size → listed.getD i true = true → R i (vs i) w) → (∀ i, i < ops.size → listed.getD i true = false → vs i = undef) → wpAny P .any ops Q fuel listed (A vs) w := by
  have hfin : ∀ (listed : Array Bool) (vs : Nat → Value) (w : World), listed.size = ops.size → S vs w → (∀ i, i < ops.size → listed.getD i true = true → R i (vs i) w) → Region.ready .any ops listed = [] → Q .normal (A vs) w := by
    intro listed vs w hsz hS hR hr
    refine hend vs w hS ?_
    have hall : ∀ i, i < ops.size → listed.getD i true = true := by
      intro i
      induction i using Nat.strongRecOn with
      | ind i ih =>
        intro hi
        cases hl : listed.getD i true with
        | true => rfl
        | false =>
          have ho : ops[i]? = some ops[i] := by simp [hi]
          have hm : i ∈ Region.ready .any ops listed := mem_ready.2 ⟨hl, ops[i], ho, fun e he hb => by
            have h1 : eachLow ops.toList = true := hlow
            unfold eachLow at h1
            rw [List.all_eq_true] at h1
            have h2 := h1 i (by simpa using hi)
            have h3 : (ops.toList)[i]? = some ops[i] := by simp [hi]
            rw [h3] at h2
            simp only [Option.map_some, Option.getD_some] at h2
            have h4 := Array.all_eq_true_iff_forall_mem.1 h2 e he
            rw [hb] at h4
            have h5 : e.on < i := by simpa using h4
            have h6 := ih e.on h5 (by omega)
            have h7 : e.on < listed.size := by omega
            simp [h7] at h6 ⊢
            exact h6⟩
          rw [hr] at hm
          cases hm
    exact fun i hi => hR i hi (hall i hi)
  intro fuel
  induction fuel with
  | zero =>
    intro listed vs w hc hsz hS hR hN
    have hr : Region.ready .any ops listed = [] := by
      cases h : Region.ready .any ops listed with
      | nil => rfl
      | cons i r =>
        have hi : i ∈ Region.ready .any ops listed := by rw [h]; exact List.mem_cons_self ..
        obtain ⟨h0, o, ho, -⟩ := mem_ready.1 hi
        have hm : i ∈ (List.range ops.size).filter fun i => !listed.getD i true := by
          rw [List.mem_filter, List.mem_range]
          exact ⟨(Array.getElem?_eq_some_iff.1 ho).1, by rw [h0]; rfl⟩
        unfold eachLeft at hc
        have := List.length_pos_of_mem hm
        omega
    exact ⟨hr, hfin listed vs w hsz hS hR hr⟩
  | succ fuel ih =>
    intro listed vs w hc hsz hS hR hN
    refine ⟨hfin listed vs w hsz hS hR, fun i hi => ?_⟩
    obtain ⟨h0, o, ho, hall⟩ := mem_ready.1 hi
    have hin : i < ops.size := (Array.getElem?_eq_some_iff.1 ho).1
    have hD : EachD R vs w o.after.toList := EachD.of fun e he hb => by
      have h1 := hall e (by simpa using he) hb
      have hlt : e.on < listed.size := by
        rcases Nat.lt_or_ge e.on listed.size with h' | h'
        · exact h'
        · simp [Array.getElem?_eq_none h'] at h1
      refine hR e.on (by omega) ?_
      simp [hlt] at h1 ⊢
      exact h1
    have hs := EachOpN.at hstep (i := i) (by simpa using ho) vs w hS (by rw [Nat.zero_add]; exact hN i hin h0) hD
    rw [Nat.zero_add] at hs
    refine each_op ho (fun e a w h => h.1) (fun a' w' h => ?_) hs
    obtain ⟨-, v, rfl, hv, hle, hS'⟩ := h
    refine ih (listed.setIfInBounds i true) (upd vs i v) w' ?_ (by simpa using hsz) hS' (fun j hj hl => ?_) (fun j hj hl => ?_)
    · have hlt := filter_less (p := fun j => !listed.getD j true) (q := fun j => !(listed.setIfInBounds i true).getD j true) (l := List.range ops.size) (fun j h => by
        by_cases e : i = j
        · subst e; simp [hsz, hin] at h
        · rw [getD_set_ne true e] at h; exact h) (i := i) (List.mem_range.2 hin) (by rw [h0]; rfl) (by simp [hsz, hin])
      unfold eachLeft at hc ⊢
      omega
    · by_cases e : j = i
      · subst e; rw [upd_same]; exact hv
      · rw [upd_other vs v e]
        refine hmono i j _ w w' e (hR j hj ?_) hle
        rw [getD_set_ne true (fun h => e h.symm)] at hl
        exact hl
    · have e : j ≠ i := fun e => by subst e; simp [hsz, hin] at hl
      rw [upd_other vs v e]
      refine hN j hj ?_
      rw [getD_set_ne true (fun h => e h.symm)] at hl
      exact hl
/-- A region that draws its order. -/
theorem wp_region_eachN {id : Nat} {Q : Exit → Act → World → Prop} {a : Act} {w : World} {l : List Oper} (A : (Nat → Value) → Act) (R : Nat → Value → World → Prop) (Le : Nat → World → World → Prop) (S : (Nat → Value) → World → Prop) (hm : P.follows .mixedOrders = true) (ha : a = A (fun _ => undef))
    (hlow : eachLow l = true) (hS : S (fun _ => undef) w.drew) (hmono : ∀ i j v w w', j ≠ i → R j v w → Le i w w' → R j v w') (hstep : EachOpN P l.toArray A R Le S 0 l)
    (hend : ∀ vs w, S vs w → (∀ i, i < l.length → R i (vs i) w) → Q .normal (A vs) w) : (Code.region id l.toArray true).wp P Q a w := by
  subst ha
  refine wp_region_any hm (each_anyN (A := A) (R := R) (Le := Le) (S := S) (by simpa using hstep) (by simpa using hlow) hmono (fun vs w h1 h2 => hend vs w h1 (by simpa using h2)) _ _ (fun _ => undef) _ ?_ (by simp) hS (fun i hi hl => ?_) (fun i hi _ => rfl))
  · unfold eachLeft
    refine Nat.le_trans (List.length_filter_le _ _) ?_
    simp
  · have hi' : i < l.length := by simpa using hi
    simp [hi'] at hl
end

end Go.Proofs.Ytdcnbakmmkbodaa
