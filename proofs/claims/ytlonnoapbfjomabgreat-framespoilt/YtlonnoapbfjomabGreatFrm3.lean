/- The document's own digits of a frame: the fixed kinds. -/
import Derived.Test.YtlonnoapbfjomabGreatFrm2
namespace Go.Proofs.YtlonnoapbfjomabGreat
set_option linter.unusedVariables false
set_option linter.unusedSimpArgs false
open Go.RowKit Dg

set_option maxRecDepth 100000 in
set_option maxHeartbeats 4000000 in
theorem dig_fixed (w : World) (kind : Int) (n : Nat) (a : Option Addr) (cap : Nat) (l : List Int) (hl : Ns w a cap l) (hm : mayX l) (h2 : 2 ≤ kind) (h6 : kind ≤ 6) (hkn : kind - 2 = (n : Int)) (F : Option (List Bool))
    (hF : F = if l.length < n then none else if okZ (residZ l n) then some (headD kind l.length ++ sampsD (l.take n) ++ residD (residZ l n)) else none) :
    Calls Tryz.prog 11 #[.int .i64 kind, .slice a l.length cap] w fun e w' => DigAt w w' F e := by
  have HL := hid_of hl
  have HT := hid_of (mayZ_of hm)
  have HS := hid_of hm.2.2
  have hl1 : 1 ≤ l.length := hm.1
  have hl64 : l.length ≤ 64 := hm.2.1
  have HF := hid_of hF
  have hn4 : n ≤ 4 := by omega
  have hkb0 : (kind == 0) = false := beq_eq_false_iff_ne.2 (by omega)
  have hkb1 : (kind == 1) = false := beq_eq_false_iff_ne.2 (by omega)
  obtain ⟨⟨L, q⟩, hR⟩ : ∃ R, R = resOut l (n : Int) := ⟨_, rfl⟩
  have HR := hid_of hR
  have hq : (l.length < n ∧ (q != 0) = true) ∨ (n ≤ l.length ∧ q = 0 ∧ L = residZ l n) := by
    unfold resOut at hR
    by_cases h : l.length < n
    · rw [if_pos (by omega)] at hR
      cases hR
      exact .inl ⟨h, rfl⟩
    · rw [if_neg (by omega), if_pos HS.out, if_neg (by omega), Int.toNat_natCast] at hR
      cases hR
      exact .inr ⟨by omega, rfl, rfl⟩
  clear hl hm hF hR
  go_enter Tryz.func11, Tryz.ntmps11
  go_wp2_with (go_at_call 10; refine (rmay_any _ _ _ _ HL.out.at_ (by omega) 0 HT.out).mono ?_; rintro e w1 ⟨rfl, rfl⟩)
  refine (rput_of w _ [] kind 8 (BtAt.none w) (by simp) (by decide) _ rfl).mono ?_
  rintro e w1 ⟨v1, rfl, h1⟩
  have H1 := hid_of h1
  clear h1
  go_wp2_with fail
  refine (rput_of w1 v1 _ (l.length : Int) 8 H1.out.bt (by simp) (by decide) (headD kind l.length) (by simp [headD])).mono ?_
  rintro e w2 ⟨v2, rfl, h2'⟩
  have H2 : Hid (OfAt w w2 v2 (headD kind l.length)) := h2'.low H1.out.2
  have HL2 : Hid (Ns w2 a cap l) := HL.out.mono H2.out.2
  clear h2' H1
  go_wp2_with fail
  refine (rresid_any w2 a cap l _ HL2.out (by omega) _ HR.out).mono ?_
  rintro e w3 hg
  obtain ⟨a3, c3, rfl, -, hn3, hb3⟩ := hg.ok
  have HN3 := hid_of hn3.at_
  have HB3 : Hid (Below w.heap.size w w3) := H2.out.2.trans (hb3.mono H2.out.2.size)
  have HBT3 : Hid (BtAt w3 v2 (headD kind l.length)) := H2.out.bt.below hb3
  clear hg hb3 hn3
  rcases hq with ⟨hlt, hq0⟩ | ⟨hge, rfl, hLe⟩
  · have HN : Hid (F = none) := by show _ = _; rw [HF.out, if_pos hlt]
    go_wp2_with fail
    go_ret2
    rw [HN.out]
    exact ⟨_, rfl, HB3.out⟩
  · have HFF : Hid (F = if okZ L then some (headD kind l.length ++ sampsD (l.take n) ++ residD L) else none) := by show _ = _; rw [HF.out, if_neg (by omega), hLe]
    have hrl : L.length ≤ 1000 := by rw [hLe]; simp; omega
    clear hLe
    go_wp2_with fail
    go_loopw [6, 12] (fun v i wr => ∃ k : Nat, k ≤ n ∧ i = .int .i64 (k : Int) ∧ Hid (BtAt wr v (headD kind l.length ++ sampsD (l.take k))) ∧ Hid (Below w3.heap.size w3 wr)) (fun _ i _ => n - (intOf i).toNat)
    case atStart => exact ⟨0, Nat.zero_le _, rfl, by show BtAt _ _ _; simpa using HBT3.out, Below.refl _ _⟩
    case round =>
      obtain ⟨k, hk, rfl, hbt, hb⟩ := hrel
      have HB4 : Hid (Below w.heap.size w wr) := HB3.out.trans (hb.out.mono HB3.out.size)
      by_cases hkn' : k < n
      · obtain ⟨x, hx⟩ : ∃ x, l[k]? = some x := ⟨l[k]'(by omega), by simp⟩
        obtain ⟨b, off, rfl, hc⟩ := HL.out.at_.mono HB4.out k x hx
        have HXS := hid_of (HS.out x (List.mem_of_getElem? hx))
        have HE : Hid (headD kind l.length ++ sampsD (l.take (k + 1)) = headD kind l.length ++ sampsD (l.take k) ++ sampD x) := by
          show _ = _
          rw [take_next l k x hx, sampsD_snoc, List.append_assoc]
        have hlen : (headD kind l.length ++ sampsD (l.take k)).length ≤ 1000000 := by simp; omega
        have hkl : k < l.length := by omega
        clear hx
        go_wp2_with fail
        refine (rsample_any wr _ _ x hbt.out hlen HXS.out _ HE.out).mono ?_
        rintro e w5 ⟨v5, rfl, h5⟩
        have H5 : Hid (BtAt w5 v5 (headD kind l.length ++ sampsD (l.take (k + 1)))) := h5.bt
        have HB5 : Hid (Below w3.heap.size w3 w5) := hb.out.trans (h5.2.mono hb.out.size)
        clear h5
        go_wp2_with fail
        exact ⟨⟨k + 1, by omega, by go_num, H5, HB5⟩, by (simp [intOf]) <;> omega⟩
      · have e : k = n := by omega
        subst e
        have hlen : (headD kind l.length ++ sampsD (l.take k)).length ≤ 100000 := by simp; omega
        have HN4 : Hid (IntsAt wr a3 L) := HN3.out.mono hb.out
        go_wp2_with fail
        refine (rresiduals_any wr _ _ a3 c3 L hbt.out hlen HN4.out hrl _ rfl).mono ?_
        rintro e w5 ⟨v5, rfl, h5, hb5⟩
        have H5 := hid_of h5
        have HB5 := hid_of hb5
        clear h5 hb5
        by_cases hz : okZ L
        · have HD : Hid (decide (okZ L) = true) := decide_eq_true hz
          have HOF : Hid (OfAt w w5 v5 (headD kind l.length ++ sampsD (l.take k) ++ residD L)) := (H5.out hz).low HB4.out
          rw [HD.out]
          go_wp2_with fail
          go_ret2
          rw [HFF.out, if_pos hz]
          exact ⟨_, rfl, HOF.out⟩
        · have HD : Hid (decide (okZ L) = false) := decide_eq_false hz
          rw [HD.out]
          go_wp2_with fail
          go_ret2
          rw [HFF.out, if_neg hz]
          exact ⟨_, rfl, HB4.out.trans (HB5.out.mono HB4.out.size)⟩

end Go.Proofs.YtlonnoapbfjomabGreat
