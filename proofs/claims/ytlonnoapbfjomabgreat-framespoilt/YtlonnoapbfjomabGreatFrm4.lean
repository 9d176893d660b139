/- The document's own digits of a frame: LPC, and any kind. -/
import Derived.Test.YtlonnoapbfjomabGreatFrm3
namespace Go.Proofs.YtlonnoapbfjomabGreat
set_option linter.unusedVariables false
set_option linter.unusedSimpArgs false
open Go.RowKit Dg

set_option maxRecDepth 100000 in
set_option maxHeartbeats 8000000 in
theorem dig_lpc (w : World) (kind : Int) (n s : Nat) (a : Option Addr) (cap : Nat) (l c : List Int) (ok : Bool) (hl : Ns w a cap l) (hm : mayX l) (h7 : 7 ≤ kind) (h18 : kind ≤ 18) (hkn : kind - 6 = (n : Int)) (hs : IsShift (autoZ l 0) s) (hR : (c, ok) = coOut l (n : Int) s) (F : Option (List Bool))
    (hF : F = if ok = true then (if okZ (lresidZ l c) then some (headD kind l.length ++ sampsD (l.take n) ++ coefsD c ++ residD (lresidZ l c)) else none) else none) :
    Calls Tryz.prog 11 #[.int .i64 kind, .slice a l.length cap] w fun e w' => DigAt w w' F e := by
  have HL := hid_of hl
  have HT := hid_of (mayZ_of hm)
  have HS := hid_of hm.2.2
  have hl1 : 1 ≤ l.length := hm.1
  have hl64 : l.length ≤ 64 := hm.2.1
  have HF := hid_of hF
  have HR := hid_of hR
  have HSH : Hid (allS l → l.length ≤ 64 → IsShift (autoZ l 0) s) := fun _ _ => hs
  have hkb0 : (kind == 0) = false := beq_eq_false_iff_ne.2 (by omega)
  have hkb1 : (kind == 1) = false := beq_eq_false_iff_ne.2 (by omega)
  clear hl hm hF hR hs
  go_enter Tryz.func11, Tryz.ntmps11
  go_wp2_with (go_at_call 10; refine (rmay_any _ _ _ _ HL.out.at_ (by omega) 0 HT.out).mono ?_; rintro e w1 ⟨rfl, rfl⟩)
  refine (rput_of w _ [] kind 8 (BtAt.none w) (by simp) (by decide) _ rfl).mono ?_
  rintro e w1 ⟨v1, rfl, h1⟩
  have H1 := hid_of h1
  clear h1
  go_wp2_with fail
  refine (rput_of w1 v1 _ (l.length : Int) 8 H1.out.bt (by simp) (by decide) (headD kind l.length) (by simp [headD])).mono ?_
  rintro e w2 ⟨v2, rfl, h2'⟩
  have H2 : Hid (OfAt w w2 v2 (headD kind l.length)) := h2'.low H1.out.2
  have HL2 : Hid (Ns w2 a cap l) := HL.out.mono H2.out.2
  clear h2' H1
  go_wp2_with fail
  refine (rco_any w2 a cap l _ s HL2.out.at_ (by omega) HSH.out _ HR.out).mono ?_
  rintro e w3 ⟨a3, c3, rfl, hn3, hb3⟩
  have HN3 := hid_of hn3
  have HB3 : Hid (Below w.heap.size w w3) := H2.out.2.trans (hb3.mono H2.out.2.size)
  have HBT3 : Hid (BtAt w3 v2 (headD kind l.length)) := H2.out.bt.below hb3
  have HL3 : Hid (Ns w3 a cap l) := HL2.out.mono hb3
  clear hb3 hn3 HL2
  cases ok with
  | false =>
    have HN : Hid (F = none) := by show _ = _; rw [HF.out]; simp
    go_wp2_with fail
    go_ret2
    rw [HN.out]
    exact ⟨_, rfl, HB3.out⟩
  | true =>
    obtain ⟨g1, g2, g3, g4, g5⟩ := coOut_true HR.out.symm
    have HFF : Hid (F = if okZ (lresidZ l c) then some (headD kind l.length ++ sampsD (l.take n) ++ coefsD c ++ residD (lresidZ l c)) else none) := by show _ = _; rw [HF.out, if_pos rfl]
    have HCN : Hid (c.length = n) := by show _ = _; omega
    have HCC := hid_of g4
    have hc12 : c.length ≤ 12 := by omega
    have hcl : c.length < l.length := by omega
    obtain ⟨L, hLe⟩ : ∃ L, L = lresidZ l c := ⟨_, rfl⟩
    have HLR : Hid ((L, 0) = lresOut l c) := by show _ = _; rw [hLe]; exact lresOut_ok l c ⟨by omega, by omega, g4⟩ (by omega) hl64 HS.out
    have hrl : L.length ≤ 1000 := by rw [hLe]; simp; omega
    rw [← hLe] at HFF
    clear hLe
    clear g1 g2 g3 g4 g5
    go_wp2_with fail
    refine (rlresid_any w3 a a3 cap c3 l c HL3.out HN3.out (by omega) (by omega) _ HLR.out).mono ?_
    rintro e w4 hg
    obtain ⟨a4, c4, rfl, -, hn4, hb4⟩ := hg.ok
    have HN4 := hid_of hn4.at_
    have HB4 : Hid (Below w.heap.size w w4) := HB3.out.trans (hb4.mono HB3.out.size)
    have HBT4 : Hid (BtAt w4 v2 (headD kind l.length)) := HBT3.out.below hb4
    have HC4 : Hid (IntsAt w4 a3 c) := HN3.out.mono hb4
    clear hg hb4 hn4 HN3 HBT3 HL3 HB3
    go_wp2_with fail
    go_loopw [6, 131] (fun v i wr => ∃ k : Nat, k ≤ c.length ∧ i = .int .i64 (k : Int) ∧ Hid (BtAt wr v (headD kind l.length ++ sampsD (l.take k))) ∧ Hid (Below w4.heap.size w4 wr)) (fun _ i _ => c.length - (intOf i).toNat)
    case atStart => exact ⟨0, Nat.zero_le _, rfl, by show BtAt _ _ _; simpa using HBT4.out, Below.refl _ _⟩
    case round =>
      obtain ⟨k, hk, rfl, hbt, hb⟩ := hrel
      have HB5 : Hid (Below w.heap.size w wr) := HB4.out.trans (hb.out.mono HB4.out.size)
      by_cases hkn' : k < c.length
      · obtain ⟨x, hx⟩ : ∃ x, l[k]? = some x := ⟨l[k]'(by omega), by simp⟩
        obtain ⟨b, off, rfl, hc⟩ := HL.out.at_.mono HB5.out k x hx
        have HXS := hid_of (HS.out x (List.mem_of_getElem? hx))
        have HE : Hid (headD kind l.length ++ sampsD (l.take (k + 1)) = headD kind l.length ++ sampsD (l.take k) ++ sampD x) := by
          show _ = _
          rw [take_next l k x hx, sampsD_snoc, List.append_assoc]
        have hlen : (headD kind l.length ++ sampsD (l.take k)).length ≤ 1000000 := by simp; omega
        have hkl : k < l.length := by omega
        clear hx
        go_wp2_with fail
        refine (rsample_any wr _ _ x hbt.out hlen HXS.out _ HE.out).mono ?_
        rintro e w6 ⟨v6, rfl, h6⟩
        have H6 : Hid (BtAt w6 v6 (headD kind l.length ++ sampsD (l.take (k + 1)))) := h6.bt
        have HB6 : Hid (Below w4.heap.size w4 w6) := hb.out.trans (h6.2.mono hb.out.size)
        clear h6
        go_wp2_with fail
        exact ⟨⟨k + 1, by omega, by go_num, H6, HB6⟩, by (simp [intOf]) <;> omega⟩
      · have e : k = c.length := by omega
        subst e
        have HBT5 := hid_of hbt.out
        have HB45 := hid_of hb.out
        clear hbt hb hk hkn'
        go_wp2_with fail
        go_loopw [6, 143] (fun v i ws => ∃ k : Nat, k ≤ c.length ∧ i = .int .i64 (k : Int) ∧ Hid (BtAt ws v (headD kind l.length ++ sampsD (l.take c.length) ++ coefsD (c.take k))) ∧ Hid (Below w4.heap.size w4 ws)) (fun _ i _ => c.length - (intOf i).toNat)
        case atStart => exact ⟨0, Nat.zero_le _, rfl, by show BtAt _ _ _; simpa using HBT5.out, HB45.out⟩
        case round =>
          obtain ⟨k, hk, rfl, hbt, hb⟩ := hrel
          have HB6 : Hid (Below w.heap.size w wr) := HB4.out.trans (hb.out.mono HB4.out.size)
          by_cases hkn' : k < c.length
          · obtain ⟨x, hx⟩ : ∃ x, c[k]? = some x := ⟨c[k], by simp [hkn']⟩
            obtain ⟨b, off, rfl, hc⟩ := HC4.out.mono hb.out k x hx
            obtain ⟨hx1, hx2⟩ := HCC.out x (List.mem_of_getElem? hx)
            have HE : Hid (headD kind l.length ++ sampsD (l.take c.length) ++ coefsD (c.take (k + 1)) = headD kind l.length ++ sampsD (l.take c.length) ++ coefsD (c.take k) ++ dig (x + 32768) 16) := by
              show _ = _
              rw [take_next c k x hx, coefsD_snoc]
              simp only [List.append_assoc]
              rfl
            have hlen : (headD kind l.length ++ sampsD (l.take c.length) ++ coefsD (c.take k)).length ≤ 1000000 := by simp; omega
            clear hx
            go_wp2_with fail
            refine (rput_of wr _ _ (x + 32768) 16 hbt.out hlen (by decide) _ HE.out).mono ?_
            rintro e w6 ⟨v6, rfl, h6⟩
            have H6 : Hid (BtAt w6 v6 (headD kind l.length ++ sampsD (l.take c.length) ++ coefsD (c.take (k + 1)))) := h6.bt
            have HB7 : Hid (Below w4.heap.size w4 w6) := hb.out.trans (h6.2.mono hb.out.size)
            clear h6
            go_wp2_with fail
            exact ⟨⟨k + 1, by omega, by go_num, H6, HB7⟩, by (simp [intOf]) <;> omega⟩
          · have e : k = c.length := by omega
            obtain ⟨E, hE⟩ : ∃ E, E = headD kind l.length ++ sampsD (l.take n) ++ coefsD c := ⟨_, rfl⟩
            have HBE : Hid (BtAt wr u6 E) := by
              have h1 := hbt.out
              rw [e, List.take_length, HCN.out] at h1
              rw [hE]; exact h1
            have hlen : E.length ≤ 100000 := by rw [hE]; simp; omega
            rw [← hE] at HFF
            subst e
            have HN5 : Hid (IntsAt wr a4 L) := HN4.out.mono hb.out
            clear hE hbt
            go_wp2_with fail
            refine (rresiduals_any wr _ E a4 c4 L HBE.out hlen HN5.out hrl _ rfl).mono ?_
            rintro e w7 ⟨v7, rfl, h7', hb7⟩
            have H7 := hid_of h7'
            have HB7 := hid_of hb7
            clear h7' hb7
            by_cases hz : okZ L
            · have HD : Hid (decide (okZ L) = true) := decide_eq_true hz
              have HOF : Hid (OfAt w w7 v7 (E ++ residD L)) := (H7.out hz).low HB6.out
              rw [HD.out]
              go_wp2_with fail
              go_ret2
              rw [HFF.out, if_pos hz]
              exact ⟨_, rfl, HOF.out⟩
            · have HD : Hid (decide (okZ L) = false) := decide_eq_false hz
              rw [HD.out]
              go_wp2_with fail
              go_ret2
              rw [HFF.out, if_neg hz]
              exact ⟨_, rfl, HB6.out.trans (HB7.out.mono HB6.out.size)⟩

/-- digits of any kind. -/
theorem dig_any (w : World) (kind : Int) (s : Nat) (a : Option Addr) (cap : Nat) (l : List Int) (hl : Ns w a cap l) (hll : l.length ≤ 1000000) (hs : mayX l → IsShift (autoZ l 0) s) :
    Calls Tryz.prog 11 #[.int .i64 kind, .slice a l.length cap] w fun e w' => DigAt w w' (frm kind l s) e := by
  by_cases hk : ¬ mayX l ∨ kind < 0 ∨ 18 < kind
  · have e : frm kind l s = none := by unfold frm; rw [if_pos hk]
    rw [e]
    exact dig_bad w kind a cap l hl.at_ hll hk
  have hm : mayX l := by
    by_cases hm : mayX l
    · exact hm
    · exact absurd (Or.inl hm) hk
  by_cases h0 : kind = 0
  · have e : frm kind l s = if allOne l then some (headD 0 l.length ++ sampD (l.getD 0 0)) else none := by unfold frm; rw [if_neg hk, if_pos h0, h0]
    subst h0
    exact dig_const w a cap l hl.at_ hm _ e
  by_cases h1 : kind = 1
  · have e : frm kind l s = some (headD 1 l.length ++ sampsD l) := by unfold frm; rw [if_neg hk, if_neg h0, if_pos h1, h1]
    rw [e]
    subst h1
    exact dig_verb w a cap l hl.at_ hm
  by_cases h6 : kind ≤ 6
  · obtain ⟨n, hn⟩ : ∃ n : Nat, kind - 2 = (n : Int) := ⟨(kind - 2).toNat, by omega⟩
    refine dig_fixed w kind n a cap l hl hm (by omega) h6 hn _ ?_
    unfold frm
    rw [if_neg hk, if_neg h0, if_neg h1, if_pos h6, hn, Int.toNat_natCast]
    by_cases h : l.length < n
    · rw [if_pos h, if_pos (by omega)]
    · rw [if_neg h, if_neg (by omega)]
  · obtain ⟨n, hn⟩ : ∃ n : Nat, kind - 6 = (n : Int) := ⟨(kind - 6).toNat, by omega⟩
    refine dig_lpc w kind n s a cap l (coOut l (n : Int) s).1 (coOut l (n : Int) s).2 hl hm (by omega) (by omega) hn (hs hm) rfl _ ?_
    unfold frm
    rw [if_neg hk, if_neg h0, if_neg h1, if_neg h6, hn, Int.toNat_natCast]

end Go.Proofs.YtlonnoapbfjomabGreat
