/- frame: the fixed predictors' digits, the others'. -/
import Derived.Test.YtlonnoapbfjomabGreatEnc2
namespace Go.Proofs.YtlonnoapbfjomabGreat
set_option linter.unusedVariables false
set_option linter.unusedSimpArgs false
open Go.RowKit Dg

theorem own_far {w w3 : World} {b : Nat} {rv : Value} {ds : List Bool} (h : WrAt w b rv ds) {a : Option Addr} {c : Nat} {L : List Int} (ho : OwnInts w3 w.heap.size (.slice a L.length c) L) : ∀ y, a = some y → ¬ Wf b rv y.block := by
  intro y hy hf
  obtain ⟨a', c', e, -, hz, -⟩ := ho.ns
  cases e
  rcases hz with ⟨rfl, -, -⟩ | ⟨g, rfl⟩
  · cases hy
  · cases hy
    exact absurd (h.foot _ hf).2 (Nat.not_lt.2 (World.ownsRow.lt ho g rfl).1)
theorem PutB.no {w w' : World} {b : Nat} {rv : Value} {ds : List Bool} (h : WrAt w b rv ds) (hb : Below w.heap.size w w') : PutB w w' b rv ds none (.returned (.bool false)) :=
  ⟨rfl, ds, Wrote.after h hb (Wrote.refl (h.below hb))⟩
/-- What was put ahead, and then residuals. -/
theorem PutB.behind {w w3 w4 w5 : World} {b : Nat} {rv rv4 : Value} {ds es : List Bool} {o o2 : Option (List Bool)} {e : Ending} (h : WrAt w b rv ds) (hb : Below w.heap.size w w3) (hk : Kept (Wf b rv) w3 w4) (hn : ∀ k, rv4.ownBlock = some k → rv.ownBlock = some k ∨ w3.heap.size ≤ k)
    (h5 : PutB w4 w5 b rv4 (ds ++ es) o2 e) (ho : o = o2.map fun D => es ++ D) : PutB w w5 b rv ds o e := by
  cases o2 with
  | none =>
    obtain ⟨he, ds', h1⟩ := h5
    rw [ho]
    exact ⟨he, ds', Wrote.after h hb (Wrote.trans hk hn h1)⟩
  | some D =>
    obtain ⟨he, h1⟩ := h5
    rw [ho]
    refine ⟨he, ?_⟩
    rw [List.append_assoc] at h1
    exact Wrote.after h hb (Wrote.trans hk hn h1)
theorem PutB.form {w w' : World} {b : Nat} {rv : Value} {ds : List Bool} {o : Option (List Bool)} {e : Ending} (h : PutB w w' b rv ds o e) : ∃ t : Bool, e = .returned (.bool t) := by
  cases o with
  | none => exact ⟨false, h.1⟩
  | some D => exact ⟨true, h.1⟩

set_option maxRecDepth 100000 in
set_option maxHeartbeats 4000000 in
theorem pfixed_any (w : World) (b cap n : Nat) (rv : Value) (ds : List Bool) (a : Option Addr) (l : List Int) (h : WrAt w b rv ds) (hl : Ns w a cap l) (ha : ∀ y, a = some y → ¬ Wf b rv y.block) (hm : mayX l) (hn4 : n ≤ 4) (hd : ds.length ≤ 1000) (o : Option (List Bool))
    (ho : o = if l.length < n then none else if okZ (residZ l n) then some (sampsD (l.take n) ++ residD (residZ l n)) else none) :
    Calls Tryz.prog 53 #[.pointer (some ⟨b, 0, none⟩), .slice a l.length cap, .int .i64 (n : Int)] w fun e w' => PutB w w' b rv ds o e := by
  have HW := hid_of h
  have HL := hid_of hl
  have HA := hid_of ha
  have HS := hid_of hm.2.2
  have hl1 : 1 ≤ l.length := hm.1
  have hl64 : l.length ≤ 64 := hm.2.1
  have hcap : l.length ≤ cap := hl.le
  have HO := hid_of ho
  obtain ⟨⟨L, q⟩, hR⟩ : ∃ R, R = resOut l (n : Int) := ⟨_, rfl⟩
  have HR := hid_of hR
  have hq : (l.length < n ∧ (q != 0) = true) ∨ (n ≤ l.length ∧ q = 0 ∧ L = residZ l n) := by
    unfold resOut at hR
    by_cases h : l.length < n
    · rw [if_pos (by omega)] at hR
      cases hR
      exact .inl ⟨h, rfl⟩
    · rw [if_neg (by omega), if_pos HS.out, if_neg (by omega), Int.toNat_natCast] at hR
      cases hR
      exact .inr ⟨by omega, rfl, rfl⟩
  clear h hl ha hm ho hR
  go_enter Tryz.func53, Tryz.ntmps53
  go_wp2_with fail
  refine (fresid_any w a cap l _ HL.out (by omega) _ HR.out).mono ?_
  rintro e w3 hg
  obtain ⟨a3, c3, rfl, ho3, hn3, hb3⟩ := hg.ok
  have HN3 := hid_of hn3.at_
  have HFAR := hid_of (own_far HW.out ho3)
  have HB3 := hid_of hb3
  have HW3 := hid_of (HW.out.below hb3)
  clear hg hb3 hn3 ho3
  rcases hq with ⟨hlt, hq0⟩ | ⟨hge, rfl, hLe⟩
  · have HN : Hid (o = none) := by show _ = _; rw [HO.out, if_pos hlt]
    go_wp2_with fail
    go_ret
    rw [HN.out]
    exact PutB.no HW.out HB3.out
  · have HOO : Hid (o = (if okZ L then some (residD L) else none).map fun D => sampsD (l.take n) ++ D) := by
      show _ = _
      rw [HO.out, if_neg (by omega), hLe]
      by_cases hz : okZ (residZ l n)
      · rw [if_pos hz, if_pos hz]; rfl
      · rw [if_neg hz, if_neg hz]; rfl
    have hrl : L.length ≤ 1000 := by rw [hLe]; simp; omega
    obtain ⟨xs, hxs⟩ : ∃ xs, xs = l.take n := ⟨_, rfl⟩
    have HXS : Hid (xs = l.take n) := hxs
    have HXL : Hid (xs.length = n) := by show _ = _; rw [hxs]; simp; omega
    have HX3 : Hid (IntsAt w3 a xs) := by rw [hxs]; exact (HL.out.at_.mono HB3.out).take n
    have HXA : Hid (allS xs) := by rw [hxs]; exact HS.out.take n
    have hsl := slice_ints a l.length cap n (by omega)
    clear hLe hxs
    go_wp2_with fail
    refine (pputs_any w3 b n cap rv ds a xs HXL.out HW3.out HX3.out HA.out HXA.out (by omega) (by omega) _ rfl).mono ?_
    rintro e w4 ⟨rfl, rv4, hw4, hk4, hn4'⟩
    have HW4 := hid_of hw4
    have HK4 := hid_of hk4
    have HN4 := hid_of hn4'
    have HL4 : Hid (IntsAt w4 a3 L) := HN3.out.kept hk4 HFAR.out
    have hlen : (ds ++ sampsD xs).length ≤ 100000 := by simp; rw [HXL.out]; omega
    clear hw4 hk4 hn4'
    go_wp2_with fail
    refine (presid_any w4 b c3 rv4 _ a3 L HW4.out HL4.out hlen hrl _ rfl).mono ?_
    rintro e w5 h5
    have H5 : Hid (PutB w w5 b rv ds o e) := PutB.behind HW.out HB3.out HK4.out HN4.out h5 (by rw [HOO.out, HXS.out])
    obtain ⟨t, rfl⟩ := h5.form
    clear h5
    go_wp2_with fail
    go_ret
    exact H5.out

set_option maxRecDepth 100000 in
set_option maxHeartbeats 4000000 in
theorem plpcs_any (w : World) (b cap n s : Nat) (rv : Value) (ds : List Bool) (a : Option Addr) (l : List Int) (h : WrAt w b rv ds) (hl : Ns w a cap l) (ha : ∀ y, a = some y → ¬ Wf b rv y.block) (hm : mayX l) (hs : IsShift (autoZ l 0) s) (hn1 : 1 ≤ n) (hn12 : n ≤ 12) (hd : ds.length ≤ 1000) (o : Option (List Bool))
    (ho : o = if (coOut l (n : Int) s).2 = true then (if okZ (lresidZ l (coOut l (n : Int) s).1) then some (sampsD (l.take n) ++ coefsD (coOut l (n : Int) s).1 ++ residD (lresidZ l (coOut l (n : Int) s).1)) else none) else none) :
    Calls Tryz.prog 55 #[.pointer (some ⟨b, 0, none⟩), .slice a l.length cap, .int .i64 (n : Int)] w fun e w' => PutB w w' b rv ds o e := by
  have HW := hid_of h
  have HL := hid_of hl
  have HA := hid_of ha
  have HS := hid_of hm.2.2
  have HSH := hid_of hs
  have hl1 : 1 ≤ l.length := hm.1
  have hl64 : l.length ≤ 64 := hm.2.1
  have hcap : l.length ≤ cap := hl.le
  obtain ⟨⟨c, t⟩, hC⟩ : ∃ R, R = coOut l (n : Int) s := ⟨_, rfl⟩
  have HC := hid_of hC
  rw [← hC] at ho
  simp only at ho
  have HO := hid_of ho
  cases t with
  | false =>
    have HN : Hid (o = none) := by show _ = _; rw [HO.out]; simp
    clear h hl ha hm ho hs hC
    go_enter Tryz.func55, Tryz.ntmps55
    go_wp2_with fail
    refine (vco_any w a cap l _ s HL.out.at_ (by omega) (fun _ _ => HSH.out) _ HC.out).mono ?_
    rintro e w2 hg
    obtain ⟨ca, cc, rfl, ho2, hn2, hb2⟩ := hg.ok
    have HB2 := hid_of hb2
    clear hg hb2 hn2 ho2
    go_wp2_with fail
    go_ret
    rw [HN.out]
    exact PutB.no HW.out HB2.out
  | true =>
    rw [if_pos rfl] at ho
    obtain ⟨g1, g2, g3, g4, g5⟩ := coOut_true hC.symm
    have hnl : n < l.length := by omega
    have HCN : Hid (c.length = n) := by show _ = _; omega
    have HCC := hid_of g4
    have hcl : c.length ≤ 12 := by omega
    obtain ⟨⟨L, q⟩, hR⟩ : ∃ R, R = lresOut l c := ⟨_, rfl⟩
    have HR := hid_of hR
    have hq : q = 0 ∧ L = lresidZ l c := by
      unfold lresOut at hR
      rw [if_neg, if_pos HS.out, if_neg (by omega)] at hR
      · cases hR; exact ⟨rfl, rfl⟩
      · rintro (h1 | h1)
        · exact h1 ⟨by omega, by omega, g4⟩
        · omega
    obtain ⟨rfl, hLe⟩ := hq
    have hrl : L.length ≤ 1000 := by rw [hLe]; simp; omega
    obtain ⟨xs, hxs⟩ : ∃ xs, xs = l.take n := ⟨_, rfl⟩
    have HOO : Hid (o = (if okZ L then some (residD L) else none).map fun D => (sampsD xs ++ coefsD c) ++ D) := by
      show _ = _
      rw [ho, hLe, hxs]
      by_cases hz : okZ (lresidZ l c)
      · rw [if_pos hz, if_pos hz]; rfl
      · rw [if_neg hz, if_neg hz]; rfl
    have HXL : Hid (xs.length = n) := by show _ = _; rw [hxs]; simp; omega
    have HXI : Hid (∀ W, IntsAt W a l → IntsAt W a xs) := by intro W hW; rw [hxs]; exact hW.take n
    have HXA : Hid (allS xs) := by rw [hxs]; exact HS.out.take n
    have hsl := slice_ints a l.length cap n (by omega)
    clear h hl ha hm ho hs hC g1 g2 g3 g4 g5 hR hLe hxs HO
    go_enter Tryz.func55, Tryz.ntmps55
    go_wp2_with fail
    refine (vco_any w a cap l _ s HL.out.at_ (by omega) (fun _ _ => HSH.out) _ HC.out).mono ?_
    rintro e w2 hg
    obtain ⟨ca, cc, rfl, ho2, hn2, hb2⟩ := hg.ok
    have HB2 := hid_of hb2
    have HCI := hid_of hn2.at_
    have HFC := hid_of (own_far HW.out ho2)
    have HL2 := hid_of (HL.out.mono hb2)
    clear hg hb2 hn2 ho2
    go_wp2_with fail
    refine (lresid_any w2 a ca cap cc l c HL2.out HCI.out (by omega) (by omega) _ HR.out).mono ?_
    rintro e w3 hg
    obtain ⟨a3, c3, rfl, ho3, hn3, hb3⟩ := hg.ok
    have HB3 : Hid (Below w.heap.size w w3) := HB2.out.trans (hb3.mono HB2.out.size)
    have HN3 := hid_of hn3.at_
    have HW3 := hid_of (HW.out.below HB3.out)
    have HFR : Hid (∀ y, a3 = some y → ¬ Wf b rv y.block) := own_far HW.out (ho3.base HB2.out.size)
    have HC3 : Hid (IntsAt w3 ca c) := HCI.out.mono hb3
    have HX3 : Hid (IntsAt w3 a xs) := HXI.out w3 (HL.out.at_.mono HB3.out)
    clear hg hb3 hn3 ho3
    go_wp2_with fail
    refine (pputs_any w3 b n cap rv ds a xs HXL.out HW3.out HX3.out HA.out HXA.out (by omega) (by omega) _ rfl).mono ?_
    rintro e w4 ⟨rfl, h4⟩
    have H4 := hid_of h4
    clear h4
    go_wp2_with fail
    go_loopw [36] (fun i wr => ∃ k : Nat, k ≤ c.length ∧ i = .int .i64 (k : Int) ∧ Hid (Wrote w3 wr b rv (ds ++ sampsD xs ++ coefsD (c.take k)))) (fun i _ => c.length - (intOf i).toNat)
    case atStart => exact ⟨0, Nat.zero_le _, rfl, by show Wrote _ _ _ _ _; simpa using H4.out⟩
    case round =>
      obtain ⟨k, hk, rfl, hwr⟩ := hrel
      by_cases hkn : k < c.length
      · obtain ⟨x, hx⟩ : ∃ x, c[k]? = some x := ⟨c[k], by simp [hkn]⟩
        obtain ⟨rv1, hw1, hk1, hn1⟩ := hwr.out
        obtain ⟨b0, off, rfl, hc⟩ := (HC3.out.kept hk1 HFC.out) k x hx
        obtain ⟨hx1, hx2⟩ := HCC.out x (List.mem_of_getElem? hx)
        have HE : Hid (ds ++ sampsD xs ++ coefsD (c.take (k + 1)) = ds ++ sampsD xs ++ coefsD (c.take k) ++ dig (x + 32768) 16) := by
          show _ = _
          rw [take_next c k x hx, coefsD_snoc, List.append_assoc _ _ (dig (x + 32768) 16)]
          rfl
        have hlen : (ds ++ sampsD xs ++ coefsD (c.take k)).length < 4398046511000 := by simp; rw [HXL.out]; omega
        have HW1 := hid_of hw1
        have HK1 := hid_of hk1
        have HN1 := hid_of hn1
        clear hx hw1 hk1 hn1 hwr
        go_wp2_with fail
        refine (put_at wr b rv1 _ (x + 32768) 16 HW1.out hlen (by decide) _ rfl).mono ?_
        rw [← HE.out]
        rintro e w5 ⟨rfl, h5⟩
        have H5 : Hid (Wrote w3 w5 b rv (ds ++ sampsD xs ++ coefsD (c.take (k + 1)))) := Wrote.trans HK1.out HN1.out h5
        clear h5
        go_wp2_with fail
        exact ⟨⟨k + 1, by omega, by go_num, H5⟩, by (simp [intOf]) <;> omega⟩
      · have e : k = c.length := by omega
        have h1 := hwr.out
        rw [e, List.take_length] at h1
        obtain ⟨rv1, hw1, hk1, hn1⟩ := h1
        have HW1 := hid_of hw1
        have HK1 := hid_of hk1
        have HN1 := hid_of hn1
        have HL4 : Hid (IntsAt wr a3 L) := HN3.out.kept hk1 HFR.out
        have hlen : (ds ++ sampsD xs ++ coefsD c).length ≤ 100000 := by simp; rw [HXL.out]; omega
        subst e
        clear hw1 hk1 hn1 hwr
        go_wp2_with fail
        refine (presid_any wr b c3 rv1 _ a3 L HW1.out HL4.out hlen hrl _ rfl).mono ?_
        rintro e w5 h5
        rw [List.append_assoc] at h5
        have H5 : Hid (PutB w w5 b rv ds o e) := PutB.behind HW.out HB3.out HK1.out HN1.out h5 HOO.out
        obtain ⟨t, rfl⟩ := h5.form
        clear h5
        go_wp2_with fail
        go_ret
        exact H5.out

end Go.Proofs.YtlonnoapbfjomabGreat
