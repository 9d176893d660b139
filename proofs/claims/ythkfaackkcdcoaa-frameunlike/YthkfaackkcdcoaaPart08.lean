/- The texts Enc2, Enc3, Ref6, Ref7, Rice4, Writes, one behind the other. -/
import Derived.Test.YthkfaackkcdcoaaPart07
import Derived.Test.YthkfaackkcdcoaaPart05
import Derived.Laws.AppendOwnNone

/- frame: residuals put, the fixed predictors', the others'. -/
namespace Go.Proofs.Ythkfaackkcdcoaa
set_option linter.unusedVariables false
set_option linter.unusedSimpArgs false
open Go.RowKit Dg

theorem pbest_any (w : World) (a : Option Addr) (cap : Nat) (l : List Int) (h : IntsAt w a l) (hl : l.length ≤ 4096) (k : Nat) (s : Int) (h1 : (∀ x ∈ l, isNum x = true) → bestTo l 24 = (k, s)) (h2 : (∃ x ∈ l, isNum x = false) → k = 0 ∧ s = 0) :
    Calls Try.prog 79 #[.slice a l.length cap] w fun e w' => e = .returned (.tuple #[.int .i64 k, .int .i64 s]) ∧ w = w' := by
  by_cases hb : ∃ x ∈ l, isNum x = false
  · obtain ⟨rfl, rfl⟩ := h2 hb
    exact best_bad w a cap l h hl hb
  · have hall : ∀ x ∈ l, isNum x = true := fun x hx => by
      cases hn : isNum x with
      | true => rfl
      | false => exact absurd ⟨x, hx, hn⟩ hb
    exact best_all w a cap l h hl hall k s (h1 hall)
theorem okZ_iff (l : List Int) : okZ l ↔ ∀ z ∈ zigs l, isNum z = true := ⟨okZ_num, fun h z hz => (isNum_true (h z hz)).2⟩
theorem Wrote.after {w w1 w2 : World} {b : Nat} {rv : Value} {ds : List Bool} {es : List Bool} (h : WrAt w b rv es) (hb : Below w.heap.size w w1) (h2 : Wrote w1 w2 b rv ds) : Wrote w w2 b rv ds :=
  Wrote.trans (Kept.of_below hb) (fun k hk => .inl hk) h2
theorem WrAt.grow {w w' : World} {b : Nat} {rv : Value} {ds : List Bool} (h : WrAt w b rv ds) (hb : Below w.heap.size w w') : WrAt w' b rv ds := h.below hb
theorem pzigs_get {l : List Int} {k : Nat} {x : Int} (h : l[k]? = some x) : (zigs l)[k]? = some (zigOf x) := by unfold zigs; rw [List.getElem?_map, h]; rfl

set_option maxRecDepth 100000 in
set_option maxHeartbeats 4000000 in
theorem presid_any (w : World) (b cap : Nat) (rv : Value) (ds : List Bool) (a : Option Addr) (l : List Int) (h : WrAt w b rv ds) (hl : IntsAt w a l) (hd : ds.length ≤ 100000) (hll : l.length ≤ 1000) (o : Option (List Bool)) (ho : o = if okZ l then some (residD l) else none) :
    Calls Try.prog 58 #[.pointer (some ⟨b, 0, none⟩), .slice a l.length cap] w fun e w' => PutB w w' b rv ds o e := by
  obtain ⟨i0, hi, hz0, hz1, hz2⟩ := info_parts Try.info3
  have HW := hid_of h
  have HL := hid_of hl
  obtain ⟨zs, hzs⟩ : ∃ zs, zs = zigs l := ⟨_, rfl⟩
  have HZL : Hid (zs.length = l.length) := by show _ = _; rw [hzs]; simp
  have HZG : Hid (∀ (k : Nat) (x : Int), l[k]? = some x → zs[k]? = some (zigOf x)) := by intro k x hx; rw [hzs]; exact pzigs_get hx
  have HZO : Hid (okZ l ↔ ∀ z ∈ zs, isNum z = true) := by show _ ↔ _; rw [hzs]; exact okZ_iff l
  obtain ⟨K, bs, hK24, hB1, hB2⟩ : ∃ (K : Nat) (bs : Int), K ≤ 24 ∧ ((∀ x ∈ zs, isNum x = true) → bestTo zs 24 = (K, bs)) ∧ ((∃ x ∈ zs, isNum x = false) → K = 0 ∧ bs = 0) := by
    by_cases hb : ∃ x ∈ zs, isNum x = false
    · refine ⟨0, 0, by decide, fun hall => ?_, fun _ => ⟨rfl, rfl⟩⟩
      obtain ⟨x, hx, hxf⟩ := hb
      rw [hall x hx] at hxf
      cases hxf
    · exact ⟨(bestTo zs 24).1, (bestTo zs 24).2, bestTo_le _ _, fun _ => rfl, fun h => absurd h hb⟩
  have HB1 := hid_of hB1
  have HB2 := hid_of hB2
  have HD : Hid ((∀ z ∈ zs, isNum z = true) → o = some (dig (K : Int) 5 ++ digs zs K)) := fun hall => by
    have hok := HZO.out.2 hall
    have e : parOf l = K := by unfold parOf; rw [← hzs, hB1 hall]
    rw [ho, if_pos hok, residD, e, ← hzs]
  have HNO : Hid (∀ z ∈ zs, isNum z = false → o = none) := fun z hz hn => by
    rw [ho]
    refine if_neg (fun hok => ?_)
    rw [HZO.out.1 hok z hz] at hn
    cases hn
  clear h hl hzs ho hB1 hB2
  go_enter Try.func58, Try.ntmps58
  go_wp2_with fail
  go_loopw [5, 14] (fun vz i wr => ∃ k : Nat, k ≤ l.length ∧ i = .int .i64 (k : Int) ∧ Hid (OwnInts wr w.heap.size vz (zs.take k)) ∧ Hid (Below w.heap.size w wr)) (fun _ i _ => l.length - (intOf i).toNat)
  case atStart => exact ⟨0, Nat.zero_le _, rfl, OwnInts.nil _ _, Below.refl _ _⟩
  case round =>
    obtain ⟨k, hk, rfl, ho, hb⟩ := hrel
    have hsz : w.heap.size ≤ wr.heap.size := hb.out.size
    by_cases hkn : k < l.length
    · obtain ⟨x, hx⟩ : ∃ x, l[k]? = some x := ⟨l[k], by simp [hkn]⟩
      obtain ⟨b1, off, rfl, hc⟩ := HL.out.mono hb.out k x hx
      obtain ⟨z, hz⟩ : ∃ z, z = zigOf x := ⟨_, rfl⟩
      have HZ : Hid (zigOf x = z) := hz.symm
      have hzk : zs[k]? = some z := by rw [hz]; exact HZG.out k x hx
      have HNX := hid_of (take_next zs k z hzk)
      have hok : (zs.take k).length ≤ 1000000 := by rw [List.length_take, HZL.out]; omega
      clear hx hz hzk
      go_wp2_with first
        | (go_at_call 78; refine (zig_any _ _).mono ?_; rw [HZ.out]; rintro e w1 ⟨rfl, rfl⟩)
        | (at_builtin; go_must (refine wpList_append_int wr rfl (.tmp 18) (.tmp 21) 22 rfl w.heap.size i0 Try.underlying22 hi hz0 hz1 hz2 u5 (zs.take k) (by rfl) ho.out z (by rfl) hok hsz ?_))
      intro v' w' g1 g2
      have HO' : Hid (OwnInts w' w.heap.size v' (zs.take (k + 1))) := by rw [HNX.out]; exact g1
      have HB' : Hid (Below w.heap.size w w') := hb.out.trans g2.out
      clear g1 g2
      go_wp2_with fail
      exact ⟨⟨k + 1, by omega, by go_num, HO', HB'⟩, by (simp [intOf]) <;> omega⟩
    · have e : k = l.length := by omega
      have ho' := ho.out
      rw [List.take_of_length_le (by rw [HZL.out]; omega)] at ho'
      obtain ⟨za, zc, hu5, hnz, hza, -⟩ := ho'.ns
      have hfar : ∀ y, za = some y → ¬ Wf b rv y.block := by
        intro y hy hf
        rcases hza with ⟨rfl, -, -⟩ | ⟨g, rfl⟩
        · cases hy
        · cases hy
          have h1 := (HW.out.foot _ hf).2
          subst hu5
          have h2 := (World.ownsRow.lt ho' g rfl).1
          exact absurd h1 (Nat.not_lt.2 h2)
      have HFAR := hid_of hfar
      subst hu5
      have HZA := hid_of hnz.at_
      have HBW := hid_of hb.out
      have HWR := hid_of (HW.out.below hb.out)
      have hz1000 : zs.length ≤ 1000 := by rw [HZL.out]; exact hll
      subst e
      clear ho ho' hnz hk hkn hb hza hfar
      go_wp2_with fail
      refine (pbest_any wr za zc zs HZA.out (by omega) K bs HB1.out HB2.out).mono ?_
      rintro e w1 ⟨rfl, rfl⟩
      go_wp2_with fail
      refine (put_at wr b rv ds (K : Int) 5 HWR.out (by omega) (by decide) _ rfl).mono ?_
      rintro e w2 ⟨rfl, h2⟩
      have H2 := hid_of h2
      clear h2
      go_wp2_with fail
      go_loopw [34] (fun i ws => ∃ j : Nat, j ≤ zs.length ∧ i = .int .i64 (j : Int) ∧ Hid (∀ z ∈ zs.take j, isNum z = true) ∧ Hid (Wrote wr ws b rv (ds ++ dig (K : Int) 5 ++ digs (zs.take j) K))) (fun i _ => zs.length - (intOf i).toNat)
      case atStart => exact ⟨0, Nat.zero_le _, rfl, fun z hz => by simp at hz, by show Wrote _ _ _ _ _; rw [List.take_zero]; simpa [digs] using H2.out⟩
      case round =>
        obtain ⟨j, hj, rfl, hnum, hof⟩ := hrel
        by_cases hjn : j < zs.length
        · obtain ⟨z, hz⟩ : ∃ z, zs[j]? = some z := ⟨zs[j], by simp [hjn]⟩
          obtain ⟨rv1, hw1, hk1, hn1⟩ := hof.out
          obtain ⟨b1, off, rfl, hc⟩ := (HZA.out.kept hk1 HFAR.out) j z hz
          have HW1 := hid_of hw1
          have HK1 := hid_of hk1
          have HN1 := hid_of hn1
          cases hzn : isNum z with
          | true =>
            have HZN' := hid_of hzn
            obtain ⟨E, hE⟩ : ∃ E, E = ds ++ dig (K : Int) 5 ++ digs (zs.take (j + 1)) K := ⟨_, rfl⟩
            have HE : Hid (E = ds ++ dig (K : Int) 5 ++ digs (zs.take j) K ++ riceDig z K) := by
              show _ = _
              rw [hE, take_next zs j z hz, digs_snoc]
              simp only [List.append_assoc]
            have hlen : (ds ++ dig (K : Int) 5 ++ digs (zs.take j) K).length ≤ 900000 := by
              have := (length_digs (zs.take j) K hnum.out hK24).2
              rw [List.length_take] at this
              simp
              omega
            have HNUM : Hid (∀ z ∈ zs.take (j + 1), isNum z = true) := by
              intro y hy
              rw [take_next zs j z hz] at hy
              rcases List.mem_append.1 hy with h1 | h1
              · exact hnum.out y h1
              · simp at h1; subst h1; exact hzn
            have HEE := hid_of hE
            clear hz hzn hE hw1 hk1 hn1 hof hnum
            go_wp2_with fail
            refine (ricePut_any _ b rv1 _ z K HW1.out (by omega) HZN'.out hK24).mono ?_
            rw [← HE.out]
            rintro e w3 ⟨rfl, h3⟩
            have H3 : Hid (Wrote _ w3 b rv E) := Wrote.trans HK1.out HN1.out h3
            rw [HEE.out] at H3
            clear h3
            go_wp2_with fail
            exact ⟨⟨j + 1, by omega, by go_num, HNUM, H3⟩, by (simp [intOf]) <;> omega⟩
          | false =>
            have HN : Hid (o = none) := HNO.out z (List.mem_of_getElem? hz) hzn
            have HP : Hid ((isNum z && isPar (K : Int)) = false) := by show _ = _; rw [hzn]; rfl
            have HOF := hof
            clear hz hzn hw1 hk1 hn1 hof hnum
            go_wp2_with fail
            refine (ricePut_bad _ _ z _ HP.out).mono ?_
            rintro e w3 ⟨rfl, rfl⟩
            go_wp2_with fail
            go_ret
            rw [HN.out]
            exact ⟨rfl, _, Wrote.after HW.out HBW.out HOF.out⟩
        · have ej : j = zs.length := by omega
          have HF : Hid (PutB w wr b rv ds o (.returned (.bool true))) := by
            have h1 := hof.out
            have h2 := hnum.out
            rw [ej, List.take_length] at h1 h2
            rw [HD.out h2]
            refine ⟨rfl, ?_⟩
            rw [← List.append_assoc]
            exact Wrote.after HW.out HBW.out h1
          clear hof hnum
          subst ej
          go_wp2_with fail
          go_ret
          exact HF.out

end Go.Proofs.Ythkfaackkcdcoaa

/- frame: the fixed predictors' digits, the others'. -/
namespace Go.Proofs.Ythkfaackkcdcoaa
set_option linter.unusedVariables false
set_option linter.unusedSimpArgs false
open Go.RowKit Dg

theorem own_far {w w3 : World} {b : Nat} {rv : Value} {ds : List Bool} (h : WrAt w b rv ds) {a : Option Addr} {c : Nat} {L : List Int} (ho : OwnInts w3 w.heap.size (.slice a L.length c) L) : ∀ y, a = some y → ¬ Wf b rv y.block := by
  intro y hy hf
  obtain ⟨a', c', e, -, hz, -⟩ := ho.ns
  cases e
  rcases hz with ⟨rfl, -, -⟩ | ⟨g, rfl⟩
  · cases hy
  · cases hy
    exact absurd (h.foot _ hf).2 (Nat.not_lt.2 (World.ownsRow.lt ho g rfl).1)
theorem PutB.no {w w' : World} {b : Nat} {rv : Value} {ds : List Bool} (h : WrAt w b rv ds) (hb : Below w.heap.size w w') : PutB w w' b rv ds none (.returned (.bool false)) :=
  ⟨rfl, ds, Wrote.after h hb (Wrote.refl (h.below hb))⟩
/-- What was put ahead, and then residuals. -/
theorem PutB.behind {w w3 w4 w5 : World} {b : Nat} {rv rv4 : Value} {ds es : List Bool} {o o2 : Option (List Bool)} {e : Ending} (h : WrAt w b rv ds) (hb : Below w.heap.size w w3) (hk : Kept (Wf b rv) w3 w4) (hn : ∀ k, rv4.ownBlock = some k → rv.ownBlock = some k ∨ w3.heap.size ≤ k)
    (h5 : PutB w4 w5 b rv4 (ds ++ es) o2 e) (ho : o = o2.map fun D => es ++ D) : PutB w w5 b rv ds o e := by
  cases o2 with
  | none =>
    obtain ⟨he, ds', h1⟩ := h5
    rw [ho]
    exact ⟨he, ds', Wrote.after h hb (Wrote.trans hk hn h1)⟩
  | some D =>
    obtain ⟨he, h1⟩ := h5
    rw [ho]
    refine ⟨he, ?_⟩
    rw [List.append_assoc] at h1
    exact Wrote.after h hb (Wrote.trans hk hn h1)
theorem PutB.form {w w' : World} {b : Nat} {rv : Value} {ds : List Bool} {o : Option (List Bool)} {e : Ending} (h : PutB w w' b rv ds o e) : ∃ t : Bool, e = .returned (.bool t) := by
  cases o with
  | none => exact ⟨false, h.1⟩
  | some D => exact ⟨true, h.1⟩

set_option maxRecDepth 100000 in
set_option maxHeartbeats 4000000 in
theorem pfixed_any (w : World) (b cap n : Nat) (rv : Value) (ds : List Bool) (a : Option Addr) (l : List Int) (h : WrAt w b rv ds) (hl : Ns w a cap l) (ha : ∀ y, a = some y → ¬ Wf b rv y.block) (hm : mayX l) (hn4 : n ≤ 4) (hd : ds.length ≤ 1000) (o : Option (List Bool))
    (ho : o = if l.length < n then none else if okZ (residZ l n) then some (sampsD (l.take n) ++ residD (residZ l n)) else none) :
    Calls Try.prog 39 #[.pointer (some ⟨b, 0, none⟩), .slice a l.length cap, .int .i64 (n : Int)] w fun e w' => PutB w w' b rv ds o e := by
  have HW := hid_of h
  have HL := hid_of hl
  have HA := hid_of ha
  have HS := hid_of hm.2.2
  have hl1 : 1 ≤ l.length := hm.1
  have hl64 : l.length ≤ 64 := hm.2.1
  have hcap : l.length ≤ cap := hl.le
  have HO := hid_of ho
  obtain ⟨⟨L, q⟩, hR⟩ : ∃ R, R = resOut l (n : Int) := ⟨_, rfl⟩
  have HR := hid_of hR
  have hq : (l.length < n ∧ (q != 0) = true) ∨ (n ≤ l.length ∧ q = 0 ∧ L = residZ l n) := by
    unfold resOut at hR
    by_cases h : l.length < n
    · rw [if_pos (by omega)] at hR
      cases hR
      exact .inl ⟨h, rfl⟩
    · rw [if_neg (by omega), if_pos HS.out, if_neg (by omega), Int.toNat_natCast] at hR
      cases hR
      exact .inr ⟨by omega, rfl, rfl⟩
  clear h hl ha hm ho hR
  go_enter Try.func39, Try.ntmps39
  go_wp2_with fail
  refine (fresid_any w a cap l _ HL.out (by omega) _ HR.out).mono ?_
  rintro e w3 hg
  obtain ⟨a3, c3, rfl, ho3, hn3, hb3⟩ := hg.ok
  have HN3 := hid_of hn3.at_
  have HFAR := hid_of (own_far HW.out ho3)
  have HB3 := hid_of hb3
  have HW3 := hid_of (HW.out.below hb3)
  clear hg hb3 hn3 ho3
  rcases hq with ⟨hlt, hq0⟩ | ⟨hge, rfl, hLe⟩
  · have HN : Hid (o = none) := by show _ = _; rw [HO.out, if_pos hlt]
    go_wp2_with fail
    go_ret
    rw [HN.out]
    exact PutB.no HW.out HB3.out
  · have HOO : Hid (o = (if okZ L then some (residD L) else none).map fun D => sampsD (l.take n) ++ D) := by
      show _ = _
      rw [HO.out, if_neg (by omega), hLe]
      by_cases hz : okZ (residZ l n)
      · rw [if_pos hz, if_pos hz]; rfl
      · rw [if_neg hz, if_neg hz]; rfl
    have hrl : L.length ≤ 1000 := by rw [hLe]; simp; omega
    obtain ⟨xs, hxs⟩ : ∃ xs, xs = l.take n := ⟨_, rfl⟩
    have HXS : Hid (xs = l.take n) := hxs
    have HXL : Hid (xs.length = n) := by show _ = _; rw [hxs]; simp; omega
    have HX3 : Hid (IntsAt w3 a xs) := by rw [hxs]; exact (HL.out.at_.mono HB3.out).take n
    have HXA : Hid (allS xs) := by rw [hxs]; exact HS.out.take n
    have hsl := slice_ints a l.length cap n (by omega)
    clear hLe hxs
    go_wp2_with fail
    refine (pputs_any w3 b n cap rv ds a xs HXL.out HW3.out HX3.out HA.out HXA.out (by omega) (by omega) _ rfl).mono ?_
    rintro e w4 ⟨rfl, rv4, hw4, hk4, hn4'⟩
    have HW4 := hid_of hw4
    have HK4 := hid_of hk4
    have HN4 := hid_of hn4'
    have HL4 : Hid (IntsAt w4 a3 L) := HN3.out.kept hk4 HFAR.out
    have hlen : (ds ++ sampsD xs).length ≤ 100000 := by simp; rw [HXL.out]; omega
    clear hw4 hk4 hn4'
    go_wp2_with fail
    refine (presid_any w4 b c3 rv4 _ a3 L HW4.out HL4.out hlen hrl _ rfl).mono ?_
    rintro e w5 h5
    have H5 : Hid (PutB w w5 b rv ds o e) := PutB.behind HW.out HB3.out HK4.out HN4.out h5 (by rw [HOO.out, HXS.out])
    obtain ⟨t, rfl⟩ := h5.form
    clear h5
    go_wp2_with fail
    go_ret
    exact H5.out

set_option maxRecDepth 100000 in
set_option maxHeartbeats 4000000 in
theorem plpcs_any (w : World) (b cap n s : Nat) (rv : Value) (ds : List Bool) (a : Option Addr) (l : List Int) (h : WrAt w b rv ds) (hl : Ns w a cap l) (ha : ∀ y, a = some y → ¬ Wf b rv y.block) (hm : mayX l) (hs : IsShift (autoZ l 0) s) (hn1 : 1 ≤ n) (hn12 : n ≤ 12) (hd : ds.length ≤ 1000) (o : Option (List Bool))
    (ho : o = if (coOut l (n : Int) s).2 = true then (if okZ (lresidZ l (coOut l (n : Int) s).1) then some (sampsD (l.take n) ++ coefsD (coOut l (n : Int) s).1 ++ residD (lresidZ l (coOut l (n : Int) s).1)) else none) else none) :
    Calls Try.prog 41 #[.pointer (some ⟨b, 0, none⟩), .slice a l.length cap, .int .i64 (n : Int)] w fun e w' => PutB w w' b rv ds o e := by
  have HW := hid_of h
  have HL := hid_of hl
  have HA := hid_of ha
  have HS := hid_of hm.2.2
  have HSH := hid_of hs
  have hl1 : 1 ≤ l.length := hm.1
  have hl64 : l.length ≤ 64 := hm.2.1
  have hcap : l.length ≤ cap := hl.le
  obtain ⟨⟨c, t⟩, hC⟩ : ∃ R, R = coOut l (n : Int) s := ⟨_, rfl⟩
  have HC := hid_of hC
  rw [← hC] at ho
  simp only at ho
  have HO := hid_of ho
  cases t with
  | false =>
    have HN : Hid (o = none) := by show _ = _; rw [HO.out]; simp
    clear h hl ha hm ho hs hC
    go_enter Try.func41, Try.ntmps41
    go_wp2_with fail
    refine (vco_any w a cap l _ s HL.out.at_ (by omega) (fun _ _ => HSH.out) _ HC.out).mono ?_
    rintro e w2 hg
    obtain ⟨ca, cc, rfl, ho2, hn2, hb2⟩ := hg.ok
    have HB2 := hid_of hb2
    clear hg hb2 hn2 ho2
    go_wp2_with fail
    go_ret
    rw [HN.out]
    exact PutB.no HW.out HB2.out
  | true =>
    rw [if_pos rfl] at ho
    obtain ⟨g1, g2, g3, g4, g5⟩ := coOut_true hC.symm
    have hnl : n < l.length := by omega
    have HCN : Hid (c.length = n) := by show _ = _; omega
    have HCC := hid_of g4
    have hcl : c.length ≤ 12 := by omega
    obtain ⟨⟨L, q⟩, hR⟩ : ∃ R, R = lresOut l c := ⟨_, rfl⟩
    have HR := hid_of hR
    have hq : q = 0 ∧ L = lresidZ l c := by
      unfold lresOut at hR
      rw [if_neg, if_pos HS.out, if_neg (by omega)] at hR
      · cases hR; exact ⟨rfl, rfl⟩
      · rintro (h1 | h1)
        · exact h1 ⟨by omega, by omega, g4⟩
        · omega
    obtain ⟨rfl, hLe⟩ := hq
    have hrl : L.length ≤ 1000 := by rw [hLe]; simp; omega
    obtain ⟨xs, hxs⟩ : ∃ xs, xs = l.take n := ⟨_, rfl⟩
    have HOO : Hid (o = (if okZ L then some (residD L) else none).map fun D => (sampsD xs ++ coefsD c) ++ D) := by
      show _ = _
      rw [ho, hLe, hxs]
      by_cases hz : okZ (lresidZ l c)
      · rw [if_pos hz, if_pos hz]; rfl
      · rw [if_neg hz, if_neg hz]; rfl
    have HXL : Hid (xs.length = n) := by show _ = _; rw [hxs]; simp; omega
    have HXI : Hid (∀ W, IntsAt W a l → IntsAt W a xs) := by intro W hW; rw [hxs]; exact hW.take n
    have HXA : Hid (allS xs) := by rw [hxs]; exact HS.out.take n
    have hsl := slice_ints a l.length cap n (by omega)
    clear h hl ha hm ho hs hC g1 g2 g3 g4 g5 hR hLe hxs HO
    go_enter Try.func41, Try.ntmps41
    go_wp2_with fail
    refine (vco_any w a cap l _ s HL.out.at_ (by omega) (fun _ _ => HSH.out) _ HC.out).mono ?_
    rintro e w2 hg
    obtain ⟨ca, cc, rfl, ho2, hn2, hb2⟩ := hg.ok
    have HB2 := hid_of hb2
    have HCI := hid_of hn2.at_
    have HFC := hid_of (own_far HW.out ho2)
    have HL2 := hid_of (HL.out.mono hb2)
    clear hg hb2 hn2 ho2
    go_wp2_with fail
    refine (lresid_any w2 a ca cap cc l c HL2.out HCI.out (by omega) (by omega) _ HR.out).mono ?_
    rintro e w3 hg
    obtain ⟨a3, c3, rfl, ho3, hn3, hb3⟩ := hg.ok
    have HB3 : Hid (Below w.heap.size w w3) := HB2.out.trans (hb3.mono HB2.out.size)
    have HN3 := hid_of hn3.at_
    have HW3 := hid_of (HW.out.below HB3.out)
    have HFR : Hid (∀ y, a3 = some y → ¬ Wf b rv y.block) := own_far HW.out (ho3.base HB2.out.size)
    have HC3 : Hid (IntsAt w3 ca c) := HCI.out.mono hb3
    have HX3 : Hid (IntsAt w3 a xs) := HXI.out w3 (HL.out.at_.mono HB3.out)
    clear hg hb3 hn3 ho3
    go_wp2_with fail
    refine (pputs_any w3 b n cap rv ds a xs HXL.out HW3.out HX3.out HA.out HXA.out (by omega) (by omega) _ rfl).mono ?_
    rintro e w4 ⟨rfl, h4⟩
    have H4 := hid_of h4
    clear h4
    go_wp2_with fail
    go_loopw [36] (fun i wr => ∃ k : Nat, k ≤ c.length ∧ i = .int .i64 (k : Int) ∧ Hid (Wrote w3 wr b rv (ds ++ sampsD xs ++ coefsD (c.take k)))) (fun i _ => c.length - (intOf i).toNat)
    case atStart => exact ⟨0, Nat.zero_le _, rfl, by show Wrote _ _ _ _ _; simpa using H4.out⟩
    case round =>
      obtain ⟨k, hk, rfl, hwr⟩ := hrel
      by_cases hkn : k < c.length
      · obtain ⟨x, hx⟩ : ∃ x, c[k]? = some x := ⟨c[k], by simp [hkn]⟩
        obtain ⟨rv1, hw1, hk1, hn1⟩ := hwr.out
        obtain ⟨b0, off, rfl, hc⟩ := (HC3.out.kept hk1 HFC.out) k x hx
        obtain ⟨hx1, hx2⟩ := HCC.out x (List.mem_of_getElem? hx)
        have HE : Hid (ds ++ sampsD xs ++ coefsD (c.take (k + 1)) = ds ++ sampsD xs ++ coefsD (c.take k) ++ dig (x + 32768) 16) := by
          show _ = _
          rw [take_next c k x hx, coefsD_snoc, List.append_assoc _ _ (dig (x + 32768) 16)]
          rfl
        have hlen : (ds ++ sampsD xs ++ coefsD (c.take k)).length < 4398046511000 := by simp; rw [HXL.out]; omega
        have HW1 := hid_of hw1
        have HK1 := hid_of hk1
        have HN1 := hid_of hn1
        clear hx hw1 hk1 hn1 hwr
        go_wp2_with fail
        refine (put_at wr b rv1 _ (x + 32768) 16 HW1.out hlen (by decide) _ rfl).mono ?_
        rw [← HE.out]
        rintro e w5 ⟨rfl, h5⟩
        have H5 : Hid (Wrote w3 w5 b rv (ds ++ sampsD xs ++ coefsD (c.take (k + 1)))) := Wrote.trans HK1.out HN1.out h5
        clear h5
        go_wp2_with fail
        exact ⟨⟨k + 1, by omega, by go_num, H5⟩, by (simp [intOf]) <;> omega⟩
      · have e : k = c.length := by omega
        have h1 := hwr.out
        rw [e, List.take_length] at h1
        obtain ⟨rv1, hw1, hk1, hn1⟩ := h1
        have HW1 := hid_of hw1
        have HK1 := hid_of hk1
        have HN1 := hid_of hn1
        have HL4 : Hid (IntsAt wr a3 L) := HN3.out.kept hk1 HFR.out
        have hlen : (ds ++ sampsD xs ++ coefsD c).length ≤ 100000 := by simp; rw [HXL.out]; omega
        subst e
        clear hw1 hk1 hn1 hwr
        go_wp2_with fail
        refine (presid_any wr b c3 rv1 _ a3 L HW1.out HL4.out hlen hrl _ rfl).mono ?_
        rintro e w5 h5
        rw [List.append_assoc] at h5
        have H5 : Hid (PutB w w5 b rv ds o e) := PutB.behind HW.out HB3.out HK1.out HN1.out h5 HOO.out
        obtain ⟨t, rfl⟩ := h5.form
        clear h5
        go_wp2_with fail
        go_ret
        exact H5.out

end Go.Proofs.Ythkfaackkcdcoaa

/- The document's own answers: Put, Ones. -/
namespace Go.Proofs.Ythkfaackkcdcoaa
set_option linter.unusedVariables false
set_option linter.unusedSimpArgs false
open Go.RowKit Dg

/-- 'append(Bits(nil), b...)': digits in new memory. -/
theorem wpList_append_bt {P : Program} (w : World) {ops : Array Oper} {rest : List Oper} {o : Oper} {a : Act} {Q : Exit → Act → World → Prop}
    (hgd : o.guard = none) (s x : Operand) (t : TypeId) (ho : o.op = .call { callee := .builtin .append, args := #[s, x], argTypes := #[t, t] })
    (i : TypeInfo) (ht : P.underlying t = some (.slice 5)) (hi : P.info? 5 = some i) (hz : i.zero = some (.int .u8 0)) (hsize : i.size = 1) (hby : i.bytes = 1)
    (hs : a.eval s = .slice none 0 0) (v : Value) (ds : List Bool) (hx : a.eval x = v) (hbt : BtAt w v ds) (hsm : ds.length ≤ 4398046511104)
    (h : ∀ v' w', Hid (w'.ownsRow w.heap.size 5 1 v' ds.length (u8s (bn ds))) → Hid (Below w.heap.size w w') → wpList P ops Q rest (a.put o.dst v') w') : wpList P ops Q (o :: rest) a w := by
  rcases hbt with ⟨rfl, rfl⟩ | ⟨b, off, cap, rfl, hb, hl, hm, hc⟩
  · exact wpList_append_own_none hgd s x t ho w.heap.size 5 i 1 ht hi (.slice none 0 0) 0 [] hs (World.ownsRow_nil _ _ _ _) hx (h _ w (World.ownsRow_nil _ _ _ _) (Below.refl _ _))
  · refine wpList_append_own w hgd s x t ho w.heap.size 5 i (.int .u8 0) 1 1 ht hi hz hsize hby rfl (by decide) (.slice none 0 0) 0 [] hs (World.ownsRow_nil _ _ _ _) ⟨b, off, none⟩ ds.length cap (u8s (bn ds)) hx (by simp) ?_ ?_ ?_ ?_ (Nat.le_refl _) ?_
    · intro j u hu
      rw [bn_get] at hu
      obtain ⟨d, hd, rfl⟩ := Option.map_eq_some_iff.1 hu
      have hadd : (⟨b, off, none⟩ : Addr).add j = ⟨b, off + j, none⟩ := by simp [Addr.add]
      rw [hadd]
      exact hc j d hd
    · intro u hu; simp [u8s] at hu; obtain ⟨x, _, rfl⟩ := hu; rfl
    · unfold maxLen; omega
    · omega
    · intro v' w' ho' hg' _
      refine h v' w' ?_ ?_
      · show w'.ownsRow _ _ _ _ _ _
        simpa using ho'
      · exact (Below.refl _ _).grown hg' (Nat.le_refl _) (fun k hk => by cases hk)

theorem and_i64 (x : Int) (d : Bool) (hd : d = (x % 2 == 1)) : bits BinOp.and IntKind.i64 x 1 = (d.toNat : Int) := by
  show IntKind.i64.wrap ((BitVec.ofInt 64 x &&& BitVec.ofInt 64 1).toNat : Int) = _
  have e1 : (BitVec.ofInt 64 1).toNat = 1 := by decide
  rw [BitVec.toNat_and, e1, nat_mask1, BitVec.toNat_ofInt]
  have hm : ((x % ((2 ^ 64 : Nat) : Int)).toNat % 2 : Nat) = (x % 2).toNat := by
    have : ((2 ^ 64 : Nat) : Int) = 18446744073709551616 := by decide
    rw [this]; omega
  rw [hm, hd]
  have h2 : x % 2 = 0 ∨ x % 2 = 1 := by omega
  rcases h2 with h | h <;> simp [h, IntKind.wrap, IntKind.bits, IntKind.signed]

set_option maxHeartbeats 1000000 in
theorem rput_bad (w : World) (v : Value) (x n : Int) (hn : n < 0 ∨ 62 < n) :
    Calls Try.prog 50 #[v, .int .i64 x, .int .i64 n] w fun e w' => e = .returned (.tuple #[v, .bool false]) ∧ w = w' := by
  rcases hn with h | h
  · go_enter Try.func50, Try.ntmps50
    go_wp2
    go_ret2
    exact ⟨rfl, rfl⟩
  · have h' : 0 ≤ n := by omega
    go_enter Try.func50, Try.ntmps50
    go_wp2
    go_ret2
    exact ⟨rfl, rfl⟩

set_option maxHeartbeats 1000000 in
theorem rones_wbad (w : World) (v : Value) (n : Int) (hn : n < 0 ∨ 1024 < n) :
    Calls Try.prog 94 #[v, .int .i64 n] w fun e w' => e = .returned (.tuple #[v, .bool false]) ∧ w = w' := by
  rcases hn with h | h
  · go_enter Try.func94, Try.ntmps94
    go_wp2
    go_ret2
    exact ⟨rfl, rfl⟩
  · have h' : 0 ≤ n := by omega
    go_enter Try.func94, Try.ntmps94
    go_wp2
    go_ret2
    exact ⟨rfl, rfl⟩

set_option maxRecDepth 100000 in
set_option maxHeartbeats 2000000 in
theorem rput_any (w : World) (v : Value) (ds : List Bool) (x : Int) (n : Nat) (hbt : BtAt w v ds) (hsm : ds.length ≤ 1000000) (hn : n ≤ 62) :
    Calls Try.prog 50 #[v, .int .i64 x, .int .i64 n] w fun e w' => ∃ v', e = .returned (.tuple #[v', .bool true]) ∧ w'.ownsRow w.heap.size 5 1 v' (ds ++ dig x n).length (u8s (bn (ds ++ dig x n))) ∧ Below w.heap.size w w' := by
  obtain ⟨i0, hi, hz0, hz1, hz2⟩ := info_parts Try.info5
  have HBT : Hid (BtAt w v ds) := hbt
  clear hbt
  go_enter Try.func50, Try.ntmps50
  go_wp2_with (at_builtin; go_must (refine wpList_append_bt _ rfl _ (.tmp 17) 58 rfl i0 Try.underlyingBits hi hz0 hz1 hz2 rfl v ds rfl HBT.out (by omega) ?_))
  intro v1 w1 HO1 HB1
  go_wp2
  go_loopw [8, 9] (fun out i wr => ∃ (k : Nat) (rs : List Bool), k ≤ n ∧ i = .int .i64 ((k : Int) - 1) ∧ Hid (rs ++ dig x k = ds ++ dig x n) ∧ Hid (OfAt w wr out rs)) (fun _ i _ => (intOf i + 1).toNat)
  case atStart => exact ⟨n, ds, Nat.le_refl _, rfl, rfl, HO1.out, HB1.out⟩
  case round =>
    obtain ⟨m, rs, hm, rfl, hrs, hof2⟩ := hrel
    match m, hm, hrs with
    | 0, _, hrs =>
      go_wp2
      go_ret2
      have h0 := hrs.out
      rw [show dig x 0 = [] from rfl, List.append_nil] at h0
      refine ⟨_, rfl, ?_⟩
      rw [← h0]
      exact hof2.out
    | k + 1, hm, hrs =>
      have ek : ((k + 1 : Nat) : Int) - 1 = (k : Int) := by omega
      rw [ek]
      obtain ⟨d, hd⟩ : ∃ d : Bool, d = (x / 2 ^ k % 2 == 1) := ⟨_, rfl⟩
      have hbit := and_i64 (x / 2 ^ k) d hd
      have hd1 : d.toNat ≤ 1 := by cases d <;> decide
      have HD : Hid (d = (x / 2 ^ k % 2 == 1)) := hd
      clear hd ek
      obtain ⟨ho, hbl⟩ := hof2.out
      have HOWN : Hid (wr.ownsRow w.heap.size 5 1 u8 rs.length (u8s (bn rs))) := ho
      have HBL : Hid (Below w.heap.size w wr) := hbl
      have hrl : rs.length ≤ 1000062 := by
        have h1 := congrArg List.length hrs.out
        simp only [List.length_append, length_dig] at h1
        omega
      have hsz : w.heap.size ≤ wr.heap.size := hbl.size
      clear ho hbl
      go_wp2_with (at_builtin; go_must (refine wpList_append_mine _ rfl (.tmp 25) (.tmp 32) 58 rfl w.heap.size 5 i0 (.int .u8 0) 1 1 Try.underlyingBits hi hz0 hz1 hz2 rfl (by decide) _ rs.length (u8s (bn rs)) rfl (HOWN.out.alloc _) ⟨wr.heap.size, 0, none⟩ 1 1 [.int .u8 (d.toNat : Int)] rfl rfl ?c1 ?c2 (by decide) ?b1 ?b2 ?b3 ?_))
      case c1 => intro j u hj; match j, hj with | 0, hj => simp at hj; subst hj; simp [Addr.add]
      case c2 => intro u hu; simp at hu; subst hu; rfl
      case b1 => unfold maxLen; omega
      case b2 => omega
      case b3 => simp; omega
      intro g cap2 w2 H1 HG HN
      go_wp2
      go_roundw
      case rel =>
        refine ⟨k, rs ++ [d], by omega, rfl, ?_, ?_, ?_⟩
        · show _ = _
          rw [← hrs.out, HD.out]
          simp [dig]
        · have := H1.out
          rw [← bn_snoc] at this
          simpa using this
        · refine (HBL.out.alloc hsz _).grown HG.out (by simp; omega) (fun k hk => ?_)
          exact (HOWN.out.lt k hk).1
      case measure => simp [intOf]

set_option maxRecDepth 100000 in
set_option maxHeartbeats 2000000 in
theorem rones_wany (w : World) (v : Value) (ds : List Bool) (n : Nat) (hbt : BtAt w v ds) (hsm : ds.length ≤ 1000000) (hn : n ≤ 1024) :
    Calls Try.prog 94 #[v, .int .i64 n] w fun e w' => ∃ v', e = .returned (.tuple #[v', .bool true]) ∧ w'.ownsRow w.heap.size 5 1 v' (ds ++ (List.replicate n true ++ [false])).length (u8s (bn (ds ++ (List.replicate n true ++ [false])))) ∧ Below w.heap.size w w' := by
  obtain ⟨i0, hi, hz0, hz1, hz2⟩ := info_parts Try.info5
  have HBT : Hid (BtAt w v ds) := hbt
  clear hbt
  go_enter Try.func94, Try.ntmps94
  go_wp2_with (at_builtin; go_must (refine wpList_append_bt _ rfl _ (.tmp 15) 58 rfl i0 Try.underlyingBits hi hz0 hz1 hz2 rfl v ds rfl HBT.out (by omega) ?_))
  intro v1 w1 HO1 HB1
  go_wp2
  go_loopw [6, 7] (fun out i wr => ∃ (k : Nat), k ≤ n ∧ i = .int .i64 (k : Int) ∧ Hid (OfAt w wr out (ds ++ List.replicate k true))) (fun _ i _ => n - (intOf i).toNat)
  case atStart => exact ⟨0, Nat.zero_le _, rfl, by simpa using HO1.out, HB1.out⟩
  case round =>
    obtain ⟨k, hk, rfl, hof⟩ := hrel
    obtain ⟨ho, hbl⟩ := hof.out
    obtain ⟨rs, hrs⟩ : ∃ rs, rs = ds ++ List.replicate k true := ⟨_, rfl⟩
    rw [← hrs] at ho
    have HRS : Hid (rs = ds ++ List.replicate k true) := hrs
    have hrl : rs.length ≤ 1001024 := by rw [hrs]; simp; omega
    have HOWN : Hid (wr.ownsRow w.heap.size 5 1 u6 rs.length (u8s (bn rs))) := ho
    have HBL : Hid (Below w.heap.size w wr) := hbl
    have hsz : w.heap.size ≤ wr.heap.size := hbl.size
    clear ho hbl hrs
    by_cases hkn : k < n
    · go_wp2_with (at_builtin; go_must (refine wpList_append_mine _ rfl (.tmp 22) (.tmp 23) 58 rfl w.heap.size 5 i0 (.int .u8 0) 1 1 Try.underlyingBits hi hz0 hz1 hz2 rfl (by decide) _ rs.length (u8s (bn rs)) rfl (HOWN.out.alloc _) ⟨wr.heap.size, 0, none⟩ 1 1 [.int .u8 1] rfl rfl ?c1 ?c2 (by decide) ?b1 ?b2 ?b3 ?_))
      case c1 => intro j u hj; match j, hj with | 0, hj => simp at hj; subst hj; simp [Addr.add]
      case c2 => intro u hu; simp at hu; subst hu; rfl
      case b1 => unfold maxLen; omega
      case b2 => omega
      case b3 => simp; omega
      intro g cap2 w2 H1 HG HN
      go_wp2
      go_roundw
      case rel =>
        refine ⟨k + 1, by omega, by go_num, ?_, ?_⟩
        · have h1 := H1.out
          have e : ds ++ List.replicate (k + 1) true = rs ++ [true] := by rw [HRS.out, List.replicate_succ', List.append_assoc]
          rw [e, bn_snoc]
          simpa using h1
        · refine (HBL.out.alloc hsz _).grown HG.out (by simp; omega) (fun k hk => ?_)
          exact (HOWN.out.lt k hk).1
      case measure => simp [intOf]; omega
    · have e : k = n := by omega
      subst e
      go_wp2_with (at_builtin; go_must (refine wpList_append_mine _ rfl (.tmp 25) (.tmp 26) 58 rfl w.heap.size 5 i0 (.int .u8 0) 1 1 Try.underlyingBits hi hz0 hz1 hz2 rfl (by decide) _ rs.length (u8s (bn rs)) rfl (HOWN.out.alloc _) ⟨wr.heap.size, 0, none⟩ 1 1 [.int .u8 0] rfl rfl ?c1 ?c2 (by decide) ?b1 ?b2 ?b3 ?_))
      case c1 => intro j u hj; match j, hj with | 0, hj => simp at hj; subst hj; simp [Addr.add]
      case c2 => intro u hu; simp at hu; subst hu; rfl
      case b1 => unfold maxLen; omega
      case b2 => omega
      case b3 => simp; omega
      intro g cap2 w2 H1 HG HN
      go_wp2
      go_ret2
      refine ⟨_, rfl, ?_, ?_⟩
      · have h1 := H1.out
        have e : ds ++ (List.replicate k true ++ [false]) = rs ++ [false] := by rw [HRS.out, List.append_assoc]
        rw [e, bn_snoc]
        simpa using h1
      · refine (HBL.out.alloc hsz _).grown HG.out (by simp; omega) (fun k hk => ?_)
        exact (HOWN.out.lt k hk).1

end Go.Proofs.Ythkfaackkcdcoaa

/- The document's own answers: Bytes; and Spoil. -/
namespace Go.Proofs.Ythkfaackkcdcoaa
set_option linter.unusedVariables false
set_option linter.unusedSimpArgs false
open Go.RowKit Dg

/-- N bytes of digits. -/
def packN (N : Nat) (ds : List Bool) : List Nat := (List.range N).map (byteAt ds)
@[simp] theorem length_packN (N : Nat) (ds : List Bool) : (packN N ds).length = N := by simp [packN]
theorem packN_get (N : Nat) (ds : List Bool) (k : Nat) (h : k < N) : (packN N ds)[k]? = some (byteAt ds k) := by simp [packN, h]
theorem packN_snoc (N : Nat) (ds : List Bool) (d : Bool) (h : ds.length / 8 < N) : packN N (ds ++ [d]) = (packN N ds).set (ds.length / 8) (byteAt (ds ++ [d]) (ds.length / 8)) := by
  apply List.ext_getElem?
  intro k
  by_cases hk : k < N
  · rw [packN_get _ _ _ hk, List.getElem?_set]
    by_cases he : ds.length / 8 = k
    · rw [if_pos he, if_pos (by simp; omega)]; rw [he]
    · rw [if_neg he, packN_get _ _ _ hk, byteAt_snoc_other _ _ _ (by omega)]
  · rw [List.getElem?_eq_none (by simp; omega), List.getElem?_eq_none (by simp; omega)]
theorem byteAt_nil (k : Nat) : byteAt [] k = 0 := by simp [byteAt, dg]
theorem packN_nil (N : Nat) : packN N [] = List.replicate N 0 := by
  apply List.ext_getElem?
  intro k
  by_cases hk : k < N
  · rw [packN_get _ _ _ hk, byteAt_nil, List.getElem?_replicate, if_pos hk]
  · rw [List.getElem?_eq_none (by simp; omega), List.getElem?_eq_none (by simp; omega)]

theorem made_u8 (n : Nat) : (madeCells (Value.int .u8 0).cells (n * 1)).toList = u8s (List.replicate n 0) := by
  apply List.ext_getElem?
  intro k
  by_cases hk : k < n
  · simp [madeCells, u8s, hk, Value.cells, Nat.mod_one]
  · rw [List.getElem?_eq_none (by simp [madeCells]; omega), List.getElem?_eq_none (by simp; omega)]

set_option maxHeartbeats 2000000 in
theorem rbytes_raw (w : World) (v : Value) (ds : List Bool) (hbt : BtAt w v ds) (hsm : ds.length ≤ 1000000) (N : Nat) (hN : N = (ds.length + 7) / 8) :
    Calls Try.prog 33 #[v] w fun e w' => e = .returned (.slice (some ⟨w.heap.size, 0, none⟩) N N) ∧ w'.ownsRow w.heap.size 5 1 (.slice (some ⟨w.heap.size, 0, none⟩) N N) N (u8s (packN N ds)) ∧ Below w.heap.size w w' := by
  obtain ⟨i0, hi, hz0, hz1, hz2⟩ := info_parts Try.info5
  obtain ⟨a0, c0, rfl⟩ := hbt.form
  have HBT : Hid (BtAt w (.slice a0 ds.length c0) ds) := hbt
  have HN : Hid (N = (ds.length + 7) / 8) := hN
  have hNi : ((ds.length : Int) + 7) / 8 = (N : Int) := by omega
  clear hbt hN
  obtain ⟨g, hg⟩ : ∃ g, g = w.heap.size := ⟨_, rfl⟩
  have HG : Hid (g = w.heap.size) := hg
  go_enter Try.func33, Try.ntmps33
  go_wp2_with (at_make; go_must (refine wpList_make_full _ rfl _ _ 26 rfl w.heap.size 5 i0 (.int .u8 0) 1 Try.underlying26 hi hz0 hz1 _ _ _ _ N rfl rfl ?e1 ?e2 ?b1 ?b2 ?b3 ?_))
  case e1 => exact hNi
  case e2 => exact hNi
  case b1 => rw [hz2]; have := HN.out; omega
  case b2 => unfold maxLen; have := HN.out; omega
  case b3 => exact Nat.le_refl _
  intro w1 hown hgr
  have HO1 : Hid (w1.ownsRow w.heap.size 5 1 (.slice (some ⟨g, 0, none⟩) N N) N (u8s (packN N []))) := by
    rw [packN_nil, ← made_u8, hg, Nat.mul_one]; exact hown
  have HB1 : Hid (Below w.heap.size w w1) := (Below.refl _ _).grown hgr (Nat.le_refl _) (fun k hk => by cases hk)
  rw [← hg]
  clear hown hgr hg
  go_wp2
  go_loopw [12] (fun i wr => ∃ j : Nat, j ≤ ds.length ∧ i = .int .i64 j ∧ Hid (wr.ownsRow w.heap.size 5 1 (.slice (some ⟨g, 0, none⟩) N N) N (u8s (packN N (ds.take j)))) ∧ Hid (Below w.heap.size w wr)) (fun i _ => ds.length - (intOf i).toNat)
  case atStart => exact ⟨0, Nat.zero_le _, rfl, HO1.out, HB1.out⟩
  case round =>
    obtain ⟨j, hj, rfl, ho, hbl⟩ := hrel
    by_cases hjl : j < ds.length
    · obtain ⟨d, hd⟩ : ∃ d, ds[j]? = some d := ⟨ds[j], by simp [hjl]⟩
      have hcb : ∃ b off, a0 = some ⟨b, off, none⟩ ∧ wr.cell? ⟨b, off + j, none⟩ = some (.int .u8 (d.toNat : Int)) := by
        rcases HBT.out with ⟨_, h0⟩ | ⟨b, off, cap, he, hb, hl, hm, hc⟩
        · rw [h0] at hjl; simp at hjl
        · cases he
          exact ⟨b, off, rfl, by rw [hbl.out.cell (p := ⟨b, off + j, none⟩) hb]; exact hc j d hd⟩
      obtain ⟨b, off, rfl, hcell⟩ := hcb
      have hj8 : j / 8 < N := by have := HN.out; omega
      obtain ⟨y, hy⟩ : ∃ y, y = byteAt (ds.take j) (j / 8) := ⟨_, rfl⟩
      have hrow : wr.cell? ⟨g, j / 8, none⟩ = some (.int .u8 (y : Int)) ∧ wr.frozen? ⟨g, j / 8, none⟩ = false := by
        rcases ho.out.2 with ⟨e1, _⟩ | ⟨g', cap', cur, hv, hgb, hh, hncap, _, hcs, htake⟩
        · cases e1
        · cases hv
          refine ⟨?_, by simp [World.frozen?, hh]⟩
          have e : (u8s (packN N (ds.take j)))[j / 8]? = some (.int .u8 (y : Int)) := by rw [u8s_get, packN_get _ _ _ hj8, hy]; rfl
          rw [← htake, List.getElem?_take, if_pos (by omega)] at e
          simp only [World.cell?, hh]
          simpa using e
      obtain ⟨hrc, hrf⟩ := hrow
      have HOR : Hid (bits BinOp.or IntKind.u8 (y : Int) ((d.toNat : Int) * 2 ^ (7 - j % 8) % 256) = (byteAt (ds.take j ++ [d]) (j / 8) : Nat)) := by
        have h1 := byteAt_or (ds.take j) d
        have h2 : (ds.take j).length = j := by simp; omega
        rw [h2, ← hy] at h1
        exact h1
      have HT : Hid (ds.take (j + 1) = ds.take j ++ [d]) := by show _ = _; rw [List.take_add_one, hd]; rfl
      clear hd hy
      go_wp2
      go_region
      all_goals go_wp2
      all_goals go_roundw
      case rel =>
        refine ⟨j + 1, by omega, by go_num, ?_, ?_⟩
        · rw [HT.out, HOR.out, packN_snoc N (ds.take j) d (by simp; omega), ← u8s_set]
          have h2 : (ds.take j).length = j := by simp; omega
          rw [h2]
          exact ownsRow_set ho.out (j / 8) hj8 _
        · exact (hbl.out.setCell (by show _ ≤ g; have := HG.out; omega) _).drew
      case measure => simp [intOf]; omega
    · have e : j = ds.length := by omega
      go_wp2
      go_ret
      have h1 := ho.out
      rw [e, List.take_length] at h1
      refine ⟨by rw [← HG.out]; rfl, by rw [← HG.out] at h1 ⊢; exact h1, hbl.out⟩

theorem rbytes_any (w : World) (v : Value) (ds : List Bool) (l : List Nat) (hl : l = pack ds) (hbt : BtAt w v ds) (hsm : ds.length ≤ 1000000) :
    Calls Try.prog 33 #[v] w fun e w' => e = .returned (.slice (some ⟨w.heap.size, 0, none⟩) l.length l.length) ∧ NewBytes w w' l := by
  have e : l = packN ((ds.length + 7) / 8) ds := hl
  have hll : l.length = (ds.length + 7) / 8 := by rw [e]; simp
  refine (rbytes_raw w v ds hbt hsm _ rfl).mono ?_
  rintro e' w' ⟨rfl, h1, h2⟩
  rw [← hll] at h1 ⊢
  refine ⟨rfl, ?_, h2⟩
  rw [e]
  rw [hll] at h1
  simpa using h1

set_option maxHeartbeats 2000000 in
theorem spoil_any (w : World) (g : Nat) (X : List Value) (hrow : RowIs w g X) (hX : ∀ u ∈ X, ∃ x : Int, u = .int .u8 x) (hsm : X.length ≤ 1000000) :
    Calls Try.prog 23 #[.slice (some ⟨g, 0, none⟩) X.length X.length] w fun e w' => e = .returned (.tuple #[]) ∧ Kept (fun k => k = g) w w' := by
  have HR : Hid (RowIs w g X) := hrow
  have HX : Hid (∀ u ∈ X, ∃ x : Int, u = .int .u8 x) := hX
  obtain ⟨n, hn⟩ : ∃ n, n = X.length := ⟨_, rfl⟩
  rw [← hn] at hsm ⊢
  have HN : Hid (X.length = n) := hn.symm
  clear hrow hX hn
  go_enter Try.func23, Try.ntmps23
  go_wp2
  go_loopw [10] (fun i wr => ∃ (j : Nat) (Y : List Value), j ≤ n ∧ i = .int .i64 j ∧ Hid (RowIs wr g Y) ∧ Hid (Y.length = n) ∧ Hid (∀ u ∈ Y, ∃ x : Int, u = .int .u8 x) ∧ Hid (Kept (fun k => k = g) w wr)) (fun i _ => n - (intOf i).toNat)
  case atStart => exact ⟨0, X, Nat.zero_le _, rfl, HR.out, HN.out, HX.out, Kept.refl _ _⟩
  case round =>
    obtain ⟨j, Y, hj, rfl, hrow, hYl, hY, hk⟩ := hrel
    by_cases hjn : j < n
    · obtain ⟨u, hu⟩ : ∃ u, Y[j]? = some u := by have := hYl.out; exact ⟨Y[j]'(by omega), by simp [this, hjn]⟩
      obtain ⟨x, hx⟩ := hY.out u (List.mem_of_getElem? hu)
      subst hx
      have hcell := hrow.out.cell hu
      have hfz := hrow.out.frozen j
      clear hu
      go_wp2
      go_roundw
      case rel =>
        refine ⟨j + 1, Y.set j _, by omega, by go_num, hrow.out.set _ _, ?_, ?_, hk.out.trans (Kept.setCell _ _ _ rfl)⟩
        · show _ = _
          simpa using hYl.out
        · intro u hu
          rcases List.mem_or_eq_of_mem_set hu with h | h
          · exact hY.out u h
          · exact ⟨_, h⟩
      case measure => simp [intOf]; omega
    · go_wp2
      go_end0
      exact ⟨rfl, hk.out⟩

end Go.Proofs.Ythkfaackkcdcoaa

/- The document's own answers: may, Size, Best; Cut of numbers. -/
namespace Go.Proofs.Ythkfaackkcdcoaa
set_option linter.unusedVariables false
set_option linter.unusedSimpArgs false
open Go.RowKit Dg

set_option maxHeartbeats 1000000 in
theorem may_any (z k : Int) (w : World) (m : Bool) (hm : m = (isNum z && isPar k)) :
    Calls Try.prog 92 #[.int .i64 z, .int .i64 k] w fun e w' => e = .returned (.bool m) ∧ w = w' := by
  have hc : (z < 0 ∧ m = false) ∨ (0 ≤ z ∧ 4294967296 ≤ z ∧ m = false) ∨ (0 ≤ z ∧ z < 4294967296 ∧ k < 0 ∧ m = false) ∨ (0 ≤ z ∧ z < 4294967296 ∧ 0 ≤ k ∧ 24 < k ∧ m = false) ∨ (0 ≤ z ∧ z < 4294967296 ∧ 0 ≤ k ∧ k ≤ 24 ∧ m = true) := by
    cases hz : isNum z with
    | true =>
      obtain ⟨h1, h2⟩ := isNum_true hz
      cases hk : isPar k with
      | true =>
        obtain ⟨h3, h4⟩ := isPar_true hk
        simp [hz, hk] at hm
        exact .inr (.inr (.inr (.inr ⟨h1, h2, h3, h4, hm⟩)))
      | false =>
        simp [hz, hk] at hm
        rcases isPar_false hk with h | h
        · exact .inr (.inr (.inl ⟨h1, h2, h, hm⟩))
        · exact .inr (.inr (.inr (.inl ⟨h1, h2, by omega, h, hm⟩)))
    | false =>
      simp [hz] at hm
      rcases isNum_false hz with h | h
      · exact .inl ⟨h, hm⟩
      · exact .inr (.inl ⟨by omega, h, hm⟩)
  clear hm
  rcases hc with ⟨h1, rfl⟩ | ⟨h1, h2, rfl⟩ | ⟨h1, h2, h3, rfl⟩ | ⟨h1, h2, h3, h4, rfl⟩ | ⟨h1, h2, h3, h4, rfl⟩
  · go_enter Try.func92, Try.ntmps92
    go_wp2
    go_ret
    exact ⟨rfl, rfl⟩
  · have hb : decide (z < 4294967296) = false := by simp; omega
    go_enter Try.func92, Try.ntmps92
    go_wp2
    go_ret
    exact ⟨rfl, rfl⟩
  · have hb : decide (0 ≤ k) = false := by simp; omega
    go_enter Try.func92, Try.ntmps92
    go_wp2
    go_ret
    exact ⟨rfl, rfl⟩
  · have hb : decide (k ≤ 24) = false := by simp; omega
    go_enter Try.func92, Try.ntmps92
    go_wp2
    go_ret
    exact ⟨rfl, rfl⟩
  · go_enter Try.func92, Try.ntmps92
    go_wp2
    go_ret
    exact ⟨rfl, rfl⟩

set_option maxHeartbeats 1000000 in
theorem rsize_in (z : Int) (k : Nat) (w : World) (hz : isNum z = true) (hk : k ≤ 24) :
    Calls Try.prog 93 #[.int .i64 z, .int .i64 k] w fun e w' => e = .returned (.int .i64 (sizeIn z k)) ∧ w = w' := by
  have hp : isPar (k : Int) = true := by simp [isPar]; omega
  obtain ⟨h1, h2⟩ := isNum_true hz
  obtain ⟨h3, h4⟩ := quot_le z k h1
  have HM : Hid (true = (isNum z && isPar (k : Int))) := by show _ = _; rw [hz, hp]; rfl
  clear hz hp
  by_cases hr : 24 ≤ z / 2 ^ k
  · have e : sizeIn z k = 56 := by simp [sizeIn, hr]
    rw [e]
    clear e
    go_enter Try.func93, Try.ntmps93
    go_wp2_with (go_at_call 92; refine (may_any z k w true HM.out).mono ?_; rintro e w2 ⟨rfl, rfl⟩)
    go_ret
    exact ⟨rfl, rfl⟩
  · have e : sizeIn z k = z / 2 ^ k + 1 + k := by simp [sizeIn, hr]
    rw [e]
    clear e
    go_enter Try.func93, Try.ntmps93
    go_wp2_with (go_at_call 92; refine (may_any z k w true HM.out).mono ?_; rintro e w2 ⟨rfl, rfl⟩)
    go_ret
    exact ⟨rfl, rfl⟩

set_option maxHeartbeats 1000000 in
theorem rsize_any (z k : Int) (w : World) :
    Calls Try.prog 93 #[.int .i64 z, .int .i64 k] w fun e w' => e = .returned (.int .i64 (sizeOf1 z k)) ∧ w = w' := by
  by_cases h : isNum z = true ∧ isPar k = true
  · obtain ⟨hz, hk⟩ := h
    have e : sizeOf1 z k = sizeIn z k.toNat := by simp [sizeOf1, hz, hk]
    obtain ⟨h1, h2⟩ := isPar_true hk
    have ek : k = (k.toNat : Int) := by omega
    rw [e]
    have := rsize_in z k.toNat w hz (by omega)
    rw [← ek] at this
    exact this
  · have e : sizeOf1 z k = 0 := by simp only [sizeOf1]; rw [if_neg h]
    rw [e]
    clear e
    have HM : Hid (false = (isNum z && isPar k)) := by
      show _ = _
      cases hz : isNum z <;> cases hk : isPar k <;> simp_all
    clear h
    go_enter Try.func93, Try.ntmps93
    go_wp2_with (go_at_call 92; refine (may_any z k w false HM.out).mono ?_; rintro e w2 ⟨rfl, rfl⟩)
    go_ret
    exact ⟨rfl, rfl⟩

theorem isPar_zero : isPar 0 = true := by decide

set_option maxHeartbeats 1000000 in
theorem rbest_bad (w : World) (a : Option Addr) (cap : Nat) (l : List Int) (h : IntsAt w a l) (hl : l.length ≤ 4096) (hbad : ∃ x ∈ l, isNum x = false) :
    Calls Try.prog 68 #[.slice a l.length cap] w fun e w' => e = .returned (.tuple #[.int .i64 0, .int .i64 0]) ∧ w = w' := by
  have HI : Hid (IntsAt w a l) := h
  have HB : Hid (∃ x ∈ l, isNum x = false) := hbad
  clear h hbad
  go_enter Try.func68, Try.ntmps68
  go_wp2
  go_loopw [12] (fun i wr => ∃ (j : Nat), i = .int .i64 (j : Int) ∧ j ≤ l.length ∧ Hid (∀ x ∈ l.take j, isNum x = true) ∧ w = wr) (fun i _ => l.length - (intOf i).toNat)
  case atStart => exact ⟨0, rfl, Nat.zero_le _, by intro x hx; simp at hx, rfl⟩
  case round =>
    obtain ⟨j, rfl, hj, ht, rfl⟩ := hrel
    by_cases hjn : j < l.length
    · obtain ⟨x, hx⟩ : ∃ x, l[j]? = some x := ⟨l[j], by simp [hjn]⟩
      obtain ⟨b, off, rfl, hc⟩ := HI.out j x hx
      have HX : Hid (l[j]? = some x) := hx
      clear hx HI
      by_cases hn : isNum x = true
      · have HN : Hid (isNum x = true) := hn
        have HM : Hid (true = (isNum x && isPar 0)) := by show _ = _; rw [hn]; rfl
        clear hn
        go_wp2_with (go_at_call 92; refine (may_any x 0 _ true HM.out).mono ?_; rintro e w2 ⟨rfl, rfl⟩)
        go_roundw
        case rel =>
          refine ⟨j + 1, by go_num, by omega, ?_, by trivial⟩
          intro y hy
          rw [List.take_add_one, HX.out] at hy
          rcases List.mem_append.1 hy with h1 | h1
          · exact ht.out y h1
          · simp at h1; subst h1; exact HN.out
        case measure => simp [intOf]; omega
      · have HM : Hid (false = (isNum x && isPar 0)) := by show _ = _; simp at hn; rw [hn]; rfl
        clear hn
        go_wp2_with (go_at_call 92; refine (may_any x 0 _ false HM.out).mono ?_; rintro e w2 ⟨rfl, rfl⟩)
        go_ret2
        exact ⟨rfl, rfl⟩
    · exfalso
      obtain ⟨x, hx, hf⟩ := HB.out
      have := ht.out x (by rw [List.take_of_length_le (by omega)]; exact hx)
      rw [this] at hf
      cases hf

set_option maxRecDepth 100000 in
set_option maxHeartbeats 4000000 in
theorem rbest_all (w : World) (a : Option Addr) (cap : Nat) (l : List Int) (h : IntsAt w a l) (hl : l.length ≤ 4096) (hall : ∀ x ∈ l, isNum x = true) (bk : Nat) (bs : Int) (HR : Hid (bestTo l 24 = (bk, bs))) :
    Calls Try.prog 68 #[.slice a l.length cap] w fun e w' => e = .returned (.tuple #[.int .i64 bk, .int .i64 bs]) ∧ w = w' := by
  have HI : Hid (IntsAt w a l) := h
  have HB : Hid (∀ x ∈ l, isNum x = true) := hall
  clear h hall
  go_enter Try.func68, Try.ntmps68
  go_wp2
  go_loopw [12] (fun i wr => ∃ (j : Nat), i = .int .i64 (j : Int) ∧ j ≤ l.length ∧ w = wr) (fun i _ => l.length - (intOf i).toNat)
  case atStart => exact ⟨0, rfl, Nat.zero_le _, rfl⟩
  case round =>
    obtain ⟨j, rfl, hj, rfl⟩ := hrel
    by_cases hjn : j < l.length
    · obtain ⟨x, hx⟩ : ∃ x, l[j]? = some x := ⟨l[j], by simp [hjn]⟩
      obtain ⟨b, off, rfl, hc⟩ := HI.out j x hx
      have HM : Hid (true = (isNum x && isPar 0)) := by show _ = _; rw [HB.out x (List.mem_of_getElem? hx)]; rfl
      clear hx HI HB
      go_wp2_with (go_at_call 92; refine (may_any x 0 _ true HM.out).mono ?_; rintro e w2 ⟨rfl, rfl⟩)
      go_roundw
      case rel => exact ⟨j + 1, by go_num, by omega, by trivial⟩
      case measure => simp [intOf]; omega
    · go_wp2
      go_loopw [5, 6, 7] (fun bk s i wr => ∃ (j p : Nat) (t : Int), i = .int .i64 (j : Int) ∧ bk = .int .i64 (p : Int) ∧ s = .int .i64 t ∧ j ≤ 25 ∧ Hid (j = 0 ∨ ∃ m, j = m + 1 ∧ bestTo l m = (p, t)) ∧ w = wr) (fun bk s i _ => 25 - (intOf i).toNat)
      case atStart => exact ⟨0, 0, 0, rfl, rfl, rfl, by decide, .inl rfl, rfl⟩
      case round =>
        obtain ⟨p, bp, bt, rfl, rfl, rfl, hp, hbest, rfl⟩ := hrel
        by_cases hp24 : p ≤ 24
        · have hpb : decide ((p : Int) ≤ 24) = true := by simp; omega
          go_wp2
          go_loopw [8, 28] (fun s i ws => ∃ (j : Nat) (t : Int), i = .int .i64 (j : Int) ∧ s = .int .i64 t ∧ j ≤ l.length ∧ Hid (t = sumSize (l.take j) p) ∧ 0 ≤ t ∧ t ≤ 56 * j ∧ w = ws) (fun s i _ => l.length - (intOf i).toNat)
          case atStart => exact ⟨0, 0, rfl, rfl, Nat.zero_le _, rfl, by decide, by decide, rfl⟩
          case round =>
            obtain ⟨j, t, rfl, rfl, hj, ht, ht0, ht1, rfl⟩ := hrel
            by_cases hjn : j < l.length
            · obtain ⟨x, hx⟩ : ∃ x, l[j]? = some x := ⟨l[j], by simp [hjn]⟩
              obtain ⟨b, off, rfl, hcell⟩ := HI.out j x hx
              obtain ⟨sz, hsz⟩ : ∃ sz, sz = sizeOf1 x p := ⟨_, rfl⟩
              have hbd := sizeOf1_bounds x p
              rw [← hsz] at hbd
              obtain ⟨hb1, hb2⟩ := hbd
              have HSZ : Hid (sz = sizeOf1 x p) := hsz
              have HX : Hid (l[j]? = some x) := hx
              clear hx hsz
              go_wp2_with (go_at_call 93; refine (rsize_any x p _).mono ?_; rw [← HSZ.out]; rintro e w2 ⟨rfl, rfl⟩)
              go_roundw
              case rel =>
                have HT : Hid (t + sz = sumSize (l.take (j + 1)) p) := by show _ = _; rw [sumSize_take l p j x HX.out, ← ht.out, ← HSZ.out]
                have hg1 : 0 ≤ t + sz := by omega
                have hg2 : t + sz ≤ 56 * ((j + 1 : Nat) : Int) := by omega
                first
                  | exact ⟨j + 1, t + sz, by go_num, rfl, by omega, HT, hg1, hg2, by trivial⟩
                  | ((repeat apply Exists.intro); refine ⟨?_, rfl⟩; exact ⟨j + 1, t + sz, by go_num, rfl, by omega, HT, hg1, hg2, by trivial⟩)
              case measure => simp [intOf]; omega
            · have e : j = l.length := by omega
              subst e
              have e2 := ht.out
              rw [List.take_length] at e2
              have HT : Hid (t = sumSize l p) := e2
              clear e2 ht
              have cs : (((p : Int) == 0) = true ∧ Hid (bestTo l p = (p, t))) ∨ (((p : Int) == 0) = false ∧ t < bt ∧ Hid (bestTo l p = (p, t))) ∨ (((p : Int) == 0) = false ∧ bt ≤ t ∧ Hid (bestTo l p = (bp, bt))) := by
                rcases hbest.out with h | ⟨m, rfl, hm⟩
                · subst h
                  refine .inl ⟨rfl, ?_⟩
                  show _ = _
                  rw [HT.out]; rfl
                · have hne : (((m + 1 : Nat) : Int) == 0) = false := by simp; omega
                  by_cases hlt : t < bt
                  · refine .inr (.inl ⟨hne, hlt, ?_⟩)
                    show _ = _
                    rw [bestTo, ← HT.out, hm, if_pos hlt]
                  · refine .inr (.inr ⟨hne, by omega, ?_⟩)
                    show _ = _
                    rw [bestTo, ← HT.out, hm, if_neg hlt]
              clear hbest
              rcases cs with ⟨c1, c2⟩ | ⟨c1, c2, c3⟩ | ⟨c1, c2, c3⟩
              · go_wp2
                go_roundw
                case rel =>
                  have HM : Hid (p + 1 = 0 ∨ ∃ m, p + 1 = m + 1 ∧ bestTo l m = (p, t)) := .inr ⟨p, rfl, c2.out⟩
                  first
                    | exact ⟨p + 1, p, t, by go_num, rfl, rfl, by omega, HM, by trivial⟩
                    | ((repeat apply Exists.intro); refine ⟨?_, rfl⟩; exact ⟨p + 1, p, t, by go_num, rfl, rfl, by omega, HM, by trivial⟩)
                case measure => simp [intOf]; omega
              · go_wp2
                go_roundw
                case rel =>
                  have HM : Hid (p + 1 = 0 ∨ ∃ m, p + 1 = m + 1 ∧ bestTo l m = (p, t)) := .inr ⟨p, rfl, c3.out⟩
                  first
                    | exact ⟨p + 1, p, t, by go_num, rfl, rfl, by omega, HM, by trivial⟩
                    | ((repeat apply Exists.intro); refine ⟨?_, rfl⟩; exact ⟨p + 1, p, t, by go_num, rfl, rfl, by omega, HM, by trivial⟩)
                case measure => simp [intOf]; omega
              · go_wp2
                go_roundw
                case rel =>
                  have HM : Hid (p + 1 = 0 ∨ ∃ m, p + 1 = m + 1 ∧ bestTo l m = (bp, bt)) := .inr ⟨p, rfl, c3.out⟩
                  first
                    | exact ⟨p + 1, bp, bt, by go_num, rfl, rfl, by omega, HM, by trivial⟩
                    | ((repeat apply Exists.intro); refine ⟨?_, rfl⟩; exact ⟨p + 1, bp, bt, by go_num, rfl, rfl, by omega, HM, by trivial⟩)
                case measure => simp [intOf]; omega
        · have e3 : (bp, bt) = (bk, bs) := by
            rcases hbest.out with h | ⟨m, h, hm⟩
            · omega
            · have : m = 24 := by omega
              subst this
              rw [← hm, ← HR.out]
          cases e3
          go_wp2
          go_ret2
          exact ⟨rfl, rfl⟩

end Go.Proofs.Ythkfaackkcdcoaa

/- BitsWrites: the walk of the law. -/
namespace Go.Proofs.Ythkfaackkcdcoaa
set_option linter.unusedVariables false
set_option linter.unusedSimpArgs false
open Go.RowKit Dg

theorem spoil_at (w : World) (g : Nat) (l : List Nat) (hrow : RowIs w g (u8s l)) (hsm : l.length ≤ 1000000) :
    Calls Try.prog 23 #[.slice (some ⟨g, 0, none⟩) l.length l.length] w fun e w' => e = .returned (.tuple #[]) ∧ Kept (fun k => k = g) w w' := by
  have := spoil_any w g (u8s l) hrow (fun u hu => by simp [u8s] at hu; obtain ⟨x, _, rfl⟩ := hu; exact ⟨_, rfl⟩) (by simpa using hsm)
  rwa [length_u8s] at this

/-- What the loop keeps: a writer and the document's digits, the same ones. -/
structure WroteAt (w wr : World) (b : Nat) (rv v : Value) (ds : List Bool) : Prop where
  wt : WrAt wr b rv ds
  bt : BtAt wr v ds
  ap : ∀ i, v.ownBlock = some i → ¬ Wf b rv i
  bel : Below w.heap.size w wr

theorem WroteAt.below {w W0 W1 : World} {b : Nat} {rv v : Value} {ds : List Bool} (h : WroteAt w W0 b rv v ds) (hb : Below W0.heap.size W0 W1) (hs : w.heap.size ≤ W0.heap.size) : WroteAt w W1 b rv v ds :=
  ⟨h.wt.below hb, h.bt.below hb, h.ap, h.bel.trans (hb.mono hs)⟩

/-- Some digits more, on both sides. -/
theorem WroteAt.next {w W0 w2 w3 : World} {b : Nat} {rv v v' : Value} {ds ds' : List Bool} (h : WroteAt w W0 b rv v ds) (hown : w2.ownsRow W0.heap.size 5 1 v' ds'.length (u8s (bn ds'))) (hb2 : Below W0.heap.size W0 w2)
    (hwr : Wrote w2 w3 b rv ds') (hbw : w.heap.size ≤ b) : ∃ rv', WroteAt w w3 b rv' v' ds' ∧ b < w3.heap.size := by
  obtain ⟨rv3, hw3, hk3, hn3⟩ := hwr
  have hfoot := h.wt.foot
  have hblk := hown.lt
  refine ⟨rv3, ⟨hw3, (BtAt.of_owns hown).kept hk3 (fun k hk hf => ?_), fun i hi hf => ?_, hk3.below_of (h.bel.trans (hb2.mono ?_)) (fun k hk => ?_) ?_⟩, hw3.lt⟩
  · have := (hblk k hk).1; have := (hfoot k hf).2; omega
  · have h1 := hblk i hi
    rcases hf with rfl | hf
    · have := h.wt.lt; omega
    · rcases hn3 i hf with h2 | h2
      · have := (hfoot i (Or.inr h2)).2; omega
      · omega
  · have := h.wt.lt; omega
  · have := (hfoot k hk).1; omega
  · have := h.wt.lt; have := hb2.size; omega

end Go.Proofs.Ythkfaackkcdcoaa
