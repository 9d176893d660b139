/- frame: residuals put, the fixed predictors', the others'. -/
import Derived.Test.YtlonnoapbfjomabGreatEnc1
namespace Go.Proofs.YtlonnoapbfjomabGreat
set_option linter.unusedVariables false
set_option linter.unusedSimpArgs false
open Go.RowKit Dg

theorem pbest_any (w : World) (a : Option Addr) (cap : Nat) (l : List Int) (h : IntsAt w a l) (hl : l.length ≤ 4096) (k : Nat) (s : Int) (h1 : (∀ x ∈ l, isNum x = true) → bestTo l 24 = (k, s)) (h2 : (∃ x ∈ l, isNum x = false) → k = 0 ∧ s = 0) :
    Calls Tryz.prog 85 #[.slice a l.length cap] w fun e w' => e = .returned (.tuple #[.int .i64 k, .int .i64 s]) ∧ w = w' := by
  by_cases hb : ∃ x ∈ l, isNum x = false
  · obtain ⟨rfl, rfl⟩ := h2 hb
    exact best_bad w a cap l h hl hb
  · have hall : ∀ x ∈ l, isNum x = true := fun x hx => by
      cases hn : isNum x with
      | true => rfl
      | false => exact absurd ⟨x, hx, hn⟩ hb
    exact best_all w a cap l h hl hall k s (h1 hall)
theorem okZ_iff (l : List Int) : okZ l ↔ ∀ z ∈ zigs l, isNum z = true := ⟨okZ_num, fun h z hz => (isNum_true (h z hz)).2⟩
theorem Wrote.after {w w1 w2 : World} {b : Nat} {rv : Value} {ds : List Bool} {es : List Bool} (h : WrAt w b rv es) (hb : Below w.heap.size w w1) (h2 : Wrote w1 w2 b rv ds) : Wrote w w2 b rv ds :=
  Wrote.trans (Kept.of_below hb) (fun k hk => .inl hk) h2
theorem WrAt.grow {w w' : World} {b : Nat} {rv : Value} {ds : List Bool} (h : WrAt w b rv ds) (hb : Below w.heap.size w w') : WrAt w' b rv ds := h.below hb
theorem pzigs_get {l : List Int} {k : Nat} {x : Int} (h : l[k]? = some x) : (zigs l)[k]? = some (zigOf x) := by unfold zigs; rw [List.getElem?_map, h]; rfl

set_option maxRecDepth 100000 in
set_option maxHeartbeats 4000000 in
theorem presid_any (w : World) (b cap : Nat) (rv : Value) (ds : List Bool) (a : Option Addr) (l : List Int) (h : WrAt w b rv ds) (hl : IntsAt w a l) (hd : ds.length ≤ 100000) (hll : l.length ≤ 1000) (o : Option (List Bool)) (ho : o = if okZ l then some (residD l) else none) :
    Calls Tryz.prog 72 #[.pointer (some ⟨b, 0, none⟩), .slice a l.length cap] w fun e w' => PutB w w' b rv ds o e := by
  obtain ⟨i0, hi, hz0, hz1, hz2⟩ := info_parts Tryz.info3
  have HW := hid_of h
  have HL := hid_of hl
  obtain ⟨zs, hzs⟩ : ∃ zs, zs = zigs l := ⟨_, rfl⟩
  have HZL : Hid (zs.length = l.length) := by show _ = _; rw [hzs]; simp
  have HZG : Hid (∀ (k : Nat) (x : Int), l[k]? = some x → zs[k]? = some (zigOf x)) := by intro k x hx; rw [hzs]; exact pzigs_get hx
  have HZO : Hid (okZ l ↔ ∀ z ∈ zs, isNum z = true) := by show _ ↔ _; rw [hzs]; exact okZ_iff l
  obtain ⟨K, bs, hK24, hB1, hB2⟩ : ∃ (K : Nat) (bs : Int), K ≤ 24 ∧ ((∀ x ∈ zs, isNum x = true) → bestTo zs 24 = (K, bs)) ∧ ((∃ x ∈ zs, isNum x = false) → K = 0 ∧ bs = 0) := by
    by_cases hb : ∃ x ∈ zs, isNum x = false
    · refine ⟨0, 0, by decide, fun hall => ?_, fun _ => ⟨rfl, rfl⟩⟩
      obtain ⟨x, hx, hxf⟩ := hb
      rw [hall x hx] at hxf
      cases hxf
    · exact ⟨(bestTo zs 24).1, (bestTo zs 24).2, bestTo_le _ _, fun _ => rfl, fun h => absurd h hb⟩
  have HB1 := hid_of hB1
  have HB2 := hid_of hB2
  have HD : Hid ((∀ z ∈ zs, isNum z = true) → o = some (dig (K : Int) 5 ++ digs zs K)) := fun hall => by
    have hok := HZO.out.2 hall
    have e : parOf l = K := by unfold parOf; rw [← hzs, hB1 hall]
    rw [ho, if_pos hok, residD, e, ← hzs]
  have HNO : Hid (∀ z ∈ zs, isNum z = false → o = none) := fun z hz hn => by
    rw [ho]
    refine if_neg (fun hok => ?_)
    rw [HZO.out.1 hok z hz] at hn
    cases hn
  clear h hl hzs ho hB1 hB2
  go_enter Tryz.func72, Tryz.ntmps72
  go_wp2_with fail
  go_loopw [5, 14] (fun vz i wr => ∃ k : Nat, k ≤ l.length ∧ i = .int .i64 (k : Int) ∧ Hid (OwnInts wr w.heap.size vz (zs.take k)) ∧ Hid (Below w.heap.size w wr)) (fun _ i _ => l.length - (intOf i).toNat)
  case atStart => exact ⟨0, Nat.zero_le _, rfl, OwnInts.nil _ _, Below.refl _ _⟩
  case round =>
    obtain ⟨k, hk, rfl, ho, hb⟩ := hrel
    have hsz : w.heap.size ≤ wr.heap.size := hb.out.size
    by_cases hkn : k < l.length
    · obtain ⟨x, hx⟩ : ∃ x, l[k]? = some x := ⟨l[k], by simp [hkn]⟩
      obtain ⟨b1, off, rfl, hc⟩ := HL.out.mono hb.out k x hx
      obtain ⟨z, hz⟩ : ∃ z, z = zigOf x := ⟨_, rfl⟩
      have HZ : Hid (zigOf x = z) := hz.symm
      have hzk : zs[k]? = some z := by rw [hz]; exact HZG.out k x hx
      have HNX := hid_of (take_next zs k z hzk)
      have hok : (zs.take k).length ≤ 1000000 := by rw [List.length_take, HZL.out]; omega
      clear hx hz hzk
      go_wp2_with first
        | (go_at_call 84; refine (zig_any _ _).mono ?_; rw [HZ.out]; rintro e w1 ⟨rfl, rfl⟩)
        | (at_builtin; go_must (refine wpList_append_int wr rfl (.tmp 18) (.tmp 21) 22 rfl w.heap.size i0 Tryz.underlying22 hi hz0 hz1 hz2 u5 (zs.take k) (by rfl) ho.out z (by rfl) hok hsz ?_))
      intro v' w' g1 g2
      have HO' : Hid (OwnInts w' w.heap.size v' (zs.take (k + 1))) := by rw [HNX.out]; exact g1
      have HB' : Hid (Below w.heap.size w w') := hb.out.trans g2.out
      clear g1 g2
      go_wp2_with fail
      exact ⟨⟨k + 1, by omega, by go_num, HO', HB'⟩, by (simp [intOf]) <;> omega⟩
    · have e : k = l.length := by omega
      have ho' := ho.out
      rw [List.take_of_length_le (by rw [HZL.out]; omega)] at ho'
      obtain ⟨za, zc, hu5, hnz, hza, -⟩ := ho'.ns
      have hfar : ∀ y, za = some y → ¬ Wf b rv y.block := by
        intro y hy hf
        rcases hza with ⟨rfl, -, -⟩ | ⟨g, rfl⟩
        · cases hy
        · cases hy
          have h1 := (HW.out.foot _ hf).2
          subst hu5
          have h2 := (World.ownsRow.lt ho' g rfl).1
          exact absurd h1 (Nat.not_lt.2 h2)
      have HFAR := hid_of hfar
      subst hu5
      have HZA := hid_of hnz.at_
      have HBW := hid_of hb.out
      have HWR := hid_of (HW.out.below hb.out)
      have hz1000 : zs.length ≤ 1000 := by rw [HZL.out]; exact hll
      subst e
      clear ho ho' hnz hk hkn hb hza hfar
      go_wp2_with fail
      refine (pbest_any wr za zc zs HZA.out (by omega) K bs HB1.out HB2.out).mono ?_
      rintro e w1 ⟨rfl, rfl⟩
      go_wp2_with fail
      refine (put_at wr b rv ds (K : Int) 5 HWR.out (by omega) (by decide) _ rfl).mono ?_
      rintro e w2 ⟨rfl, h2⟩
      have H2 := hid_of h2
      clear h2
      go_wp2_with fail
      go_loopw [34] (fun i ws => ∃ j : Nat, j ≤ zs.length ∧ i = .int .i64 (j : Int) ∧ Hid (∀ z ∈ zs.take j, isNum z = true) ∧ Hid (Wrote wr ws b rv (ds ++ dig (K : Int) 5 ++ digs (zs.take j) K))) (fun i _ => zs.length - (intOf i).toNat)
      case atStart => exact ⟨0, Nat.zero_le _, rfl, fun z hz => by simp at hz, by show Wrote _ _ _ _ _; rw [List.take_zero]; simpa [digs] using H2.out⟩
      case round =>
        obtain ⟨j, hj, rfl, hnum, hof⟩ := hrel
        by_cases hjn : j < zs.length
        · obtain ⟨z, hz⟩ : ∃ z, zs[j]? = some z := ⟨zs[j], by simp [hjn]⟩
          obtain ⟨rv1, hw1, hk1, hn1⟩ := hof.out
          obtain ⟨b1, off, rfl, hc⟩ := (HZA.out.kept hk1 HFAR.out) j z hz
          have HW1 := hid_of hw1
          have HK1 := hid_of hk1
          have HN1 := hid_of hn1
          cases hzn : isNum z with
          | true =>
            have HZN' := hid_of hzn
            obtain ⟨E, hE⟩ : ∃ E, E = ds ++ dig (K : Int) 5 ++ digs (zs.take (j + 1)) K := ⟨_, rfl⟩
            have HE : Hid (E = ds ++ dig (K : Int) 5 ++ digs (zs.take j) K ++ riceDig z K) := by
              show _ = _
              rw [hE, take_next zs j z hz, digs_snoc]
              simp only [List.append_assoc]
            have hlen : (ds ++ dig (K : Int) 5 ++ digs (zs.take j) K).length ≤ 900000 := by
              have := (length_digs (zs.take j) K hnum.out hK24).2
              rw [List.length_take] at this
              simp
              omega
            have HNUM : Hid (∀ z ∈ zs.take (j + 1), isNum z = true) := by
              intro y hy
              rw [take_next zs j z hz] at hy
              rcases List.mem_append.1 hy with h1 | h1
              · exact hnum.out y h1
              · simp at h1; subst h1; exact hzn
            have HEE := hid_of hE
            clear hz hzn hE hw1 hk1 hn1 hof hnum
            go_wp2_with fail
            refine (ricePut_any _ b rv1 _ z K HW1.out (by omega) HZN'.out hK24).mono ?_
            rw [← HE.out]
            rintro e w3 ⟨rfl, h3⟩
            have H3 : Hid (Wrote _ w3 b rv E) := Wrote.trans HK1.out HN1.out h3
            rw [HEE.out] at H3
            clear h3
            go_wp2_with fail
            exact ⟨⟨j + 1, by omega, by go_num, HNUM, H3⟩, by (simp [intOf]) <;> omega⟩
          | false =>
            have HN : Hid (o = none) := HNO.out z (List.mem_of_getElem? hz) hzn
            have HP : Hid ((isNum z && isPar (K : Int)) = false) := by show _ = _; rw [hzn]; rfl
            have HOF := hof
            clear hz hzn hw1 hk1 hn1 hof hnum
            go_wp2_with fail
            refine (ricePut_bad _ _ z _ HP.out).mono ?_
            rintro e w3 ⟨rfl, rfl⟩
            go_wp2_with fail
            go_ret
            rw [HN.out]
            exact ⟨rfl, _, Wrote.after HW.out HBW.out HOF.out⟩
        · have ej : j = zs.length := by omega
          have HF : Hid (PutB w wr b rv ds o (.returned (.bool true))) := by
            have h1 := hof.out
            have h2 := hnum.out
            rw [ej, List.take_length] at h1 h2
            rw [HD.out h2]
            refine ⟨rfl, ?_⟩
            rw [← List.append_assoc]
            exact Wrote.after HW.out HBW.out h1
          clear hof hnum
          subst ej
          go_wp2_with fail
          go_ret
          exact HF.out

end Go.Proofs.YtlonnoapbfjomabGreat
