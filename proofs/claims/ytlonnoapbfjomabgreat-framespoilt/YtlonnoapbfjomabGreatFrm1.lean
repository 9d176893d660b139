/- The document's own digits of a sample, of residuals. -/
import Derived.Test.YtlonnoapbfjomabGreatFrmMath
import Derived.Test.YtlonnoapbfjomabGreatRef7
import Derived.Test.YtlonnoapbfjomabGreatRice6
import Derived.Test.YtlonnoapbfjomabGreatZigs
namespace Go.Proofs.YtlonnoapbfjomabGreat
set_option linter.unusedVariables false
set_option linter.unusedSimpArgs false
open Go.RowKit Dg

theorem OfAt.bt {w wr : World} {v : Value} {ds : List Bool} (h : OfAt w wr v ds) : BtAt wr v ds := BtAt.of_owns h.1
theorem OfAt.low {w w1 wr : World} {v : Value} {ds : List Bool} (h : OfAt w1 wr v ds) (hb : Below w.heap.size w w1) : OfAt w wr v ds := ⟨ownsRow_base h.1 hb.size, hb.trans (h.2.mono hb.size)⟩
theorem OfAt.drewN {w wr : World} {v : Value} {ds : List Bool} (h : OfAt w wr v ds) (n : Nat) : OfAt w (wr.drewN n) v ds := ⟨h.1, below_drewN h.2 n⟩
theorem BtAt.none (w : World) : BtAt w (.slice none 0 0) [] := .inl ⟨rfl, rfl⟩
/-- Put, as a walk spells it. -/
theorem rput_of (w : World) (v : Value) (ds : List Bool) (x : Int) (n : Nat) (hbt : BtAt w v ds) (hsm : ds.length ≤ 1000000) (hn : n ≤ 62) (D : List Bool) (hD : D = ds ++ dig x n) :
    Calls Tryz.prog 19 #[v, .int .i64 x, .int .i64 n] w fun e w' => ∃ v', e = .returned (.tuple #[v', .bool true]) ∧ OfAt w w' v' D := by
  refine (rput_any w v ds x n hbt hsm hn).mono ?_
  rintro e w' ⟨v', rfl, h1, h2⟩
  exact ⟨v', rfl, by rw [hD]; exact ⟨h1, h2⟩⟩
theorem rrice_of (w : World) (v : Value) (ds : List Bool) (z : Int) (k : Nat) (h : BtAt w v ds) (hlt : ds.length ≤ 900000) (hz : isNum z = true) (hk : k ≤ 24) (D : List Bool) (hD : D = ds ++ riceDig z k) :
    Calls Tryz.prog 43 #[v, .int .i64 z, .int .i64 k] w fun e w' => ∃ v', e = .returned (.tuple #[v', .bool true]) ∧ OfAt w w' v' D := by
  refine (rrice_any w v ds z k h hlt hz hk).mono ?_
  rintro e w' ⟨v', rfl, h1, h2⟩
  exact ⟨v', rfl, by rw [hD]; exact ⟨h1, h2⟩⟩

set_option maxHeartbeats 1000000 in
theorem rsample_any (w : World) (v : Value) (ds : List Bool) (x : Int) (h : BtAt w v ds) (hl : ds.length ≤ 1000000) (hx : isS x) (D : List Bool) (hD : D = ds ++ sampD x) :
    Calls Tryz.prog 20 #[v, .int .i64 x] w fun e w' => ∃ v', e = .returned v' ∧ OfAt w w' v' D := by
  obtain ⟨hx1, hx2⟩ := hx
  have HB := hid_of h
  have HD := hid_of hD
  clear h hD
  go_enter Tryz.func20, Tryz.ntmps20
  go_wp2_with fail
  refine (rput_of w v ds _ 24 HB.out hl (by decide) D HD.out).mono ?_
  rintro e w1 ⟨v1, rfl, h1⟩
  have H1 := hid_of h1
  clear h1
  go_wp2_with fail
  go_ret
  exact ⟨v1, rfl, H1.out⟩

theorem zigs_get {l : List Int} {k : Nat} {x : Int} (h : l[k]? = some x) : (zigs l)[k]? = some (zigOf x) := by unfold zigs; rw [List.getElem?_map, h]; rfl
theorem zigs_take (l : List Int) (k : Nat) : (zigs l).take k = zigs (l.take k) := by simp [zigs, List.map_take]

set_option maxRecDepth 100000 in
set_option maxHeartbeats 4000000 in
theorem rresiduals_any (w : World) (v : Value) (ds : List Bool) (a : Option Addr) (cap : Nat) (l : List Int) (h : BtAt w v ds) (hds : ds.length ≤ 100000) (hl : IntsAt w a l) (hll : l.length ≤ 1000) (D : List Bool) (hD : D = ds ++ residD l) :
    Calls Tryz.prog 22 #[v, .slice a l.length cap] w fun e w' => ∃ v', e = .returned (.tuple #[v', .bool (decide (okZ l))]) ∧ (okZ l → OfAt w w' v' D) ∧ Below w.heap.size w w' := by
  obtain ⟨i0, hi, hz0, hz1, hz2⟩ := info_parts Tryz.info3
  have HB := hid_of h
  have HL := hid_of hl
  obtain ⟨zs, hzs⟩ : ∃ zs, zs = zigs l := ⟨_, rfl⟩
  have HZL : Hid (zs.length = l.length) := by show _ = _; rw [hzs]; simp
  have HZG : Hid (∀ (k : Nat) (x : Int), l[k]? = some x → zs[k]? = some (zigOf x)) := by intro k x hx; rw [hzs]; exact zigs_get hx
  have HZO : Hid (okZ l ↔ ∀ z ∈ zs, z < 4294967296) := by show _ ↔ _; rw [hzs]; exact Iff.rfl
  have HZN : Hid (okZ l → ∀ z ∈ zs, isNum z = true) := by rw [hzs]; exact okZ_num
  obtain ⟨⟨bk, bs⟩, hbest⟩ : ∃ R, bestTo zs 24 = R := ⟨_, rfl⟩
  have HBEST := hid_of hbest
  have hbk : bk ≤ 24 := by have := bestTo_le zs 24; rw [hbest] at this; exact this
  have HD : Hid (D = ds ++ dig (bk : Int) 5 ++ digs zs bk) := by
    show _ = _
    have e : parOf l = bk := by unfold parOf; rw [← hzs, hbest]
    rw [hD, residD, e, ← hzs, List.append_assoc]
  clear h hl hzs hbest hD
  go_enter Tryz.func22, Tryz.ntmps22
  go_wp2_with fail
  go_loopw [6, 14] (fun vz i wr => ∃ k : Nat, k ≤ l.length ∧ i = .int .i64 (k : Int) ∧ Hid (∀ z ∈ zs.take k, z < 4294967296) ∧ Hid (OwnInts wr w.heap.size vz (zs.take k)) ∧ Hid (Below w.heap.size w wr)) (fun _ i _ => l.length - (intOf i).toNat)
  case atStart => exact ⟨0, Nat.zero_le _, rfl, fun z hz => by simp at hz, OwnInts.nil _ _, Below.refl _ _⟩
  case round =>
    obtain ⟨k, hk, rfl, hsm, ho, hb⟩ := hrel
    have hsz : w.heap.size ≤ wr.heap.size := hb.out.size
    by_cases hkn : k < l.length
    · obtain ⟨x, hx⟩ : ∃ x, l[k]? = some x := ⟨l[k], by simp [hkn]⟩
      obtain ⟨b, off, rfl, hc⟩ := HL.out.mono hb.out k x hx
      obtain ⟨z, hz⟩ : ∃ z, z = zigOf x := ⟨_, rfl⟩
      have HZ : Hid (zigOf x = z) := hz.symm
      have hzk : zs[k]? = some z := by rw [hz]; exact HZG.out k x hx
      have HNX := hid_of (take_next zs k z hzk)
      have hok : (zs.take k).length ≤ 1000000 := by rw [List.length_take, HZL.out]; omega
      by_cases hbig : 4294967296 ≤ z
      · have HN : Hid (¬ okZ l) := fun h1 => by have := HZO.out.1 h1 z (List.mem_of_getElem? hzk); omega
        have HF : Hid (decide (okZ l) = false) := decide_eq_false HN.out
        clear hx hz hzk
        go_wp2_with (go_at_call 41; refine (rzig_any _ _).mono ?_; rw [HZ.out]; rintro e w1 ⟨rfl, rfl⟩)
        go_ret2
        rw [HF.out]
        exact ⟨_, rfl, fun h1 => absurd h1 HN.out, hb.out⟩
      · have hbig' : z < 4294967296 := by omega
        have HSM : Hid (∀ y ∈ zs.take (k + 1), y < 4294967296) := by
          intro y hy
          rw [HNX.out] at hy
          rcases List.mem_append.1 hy with h1 | h1
          · exact hsm.out y h1
          · simp at h1; subst h1; exact hbig'
        clear hx hz hzk hsm
        go_wp2_with first
          | (go_at_call 41; refine (rzig_any _ _).mono ?_; rw [HZ.out]; rintro e w1 ⟨rfl, rfl⟩)
          | (at_builtin; go_must (refine wpList_append_int wr rfl (.tmp 25) (.tmp 27) 22 rfl w.heap.size i0 Tryz.underlying22 hi hz0 hz1 hz2 u6 (zs.take k) (by rfl) ho.out z (by rfl) hok hsz ?_))
        intro v' w' g1 g2
        have HO' : Hid (OwnInts w' w.heap.size v' (zs.take (k + 1))) := by rw [HNX.out]; exact g1
        have HB' : Hid (Below w.heap.size w w') := hb.out.trans g2.out
        clear g1 g2
        go_wp2_with fail
        exact ⟨⟨k + 1, by omega, by go_num, HSM, HO', HB'⟩, by (simp [intOf]) <;> omega⟩
    · have e : k = l.length := by omega
      have hsm' := hsm.out
      have ho' := ho.out
      rw [List.take_of_length_le (by rw [HZL.out]; omega)] at hsm' ho'
      have hok : okZ l := HZO.out.2 hsm'
      have HOK := hid_of hok
      have HT : Hid (decide (okZ l) = true) := decide_eq_true hok
      have HNUM := hid_of (HZN.out hok)
      obtain ⟨za, zc, hu6, hnz, -, -⟩ := ho'.ns
      subst hu6
      have HZA := hid_of hnz.at_
      have HBV : Hid (BtAt wr v ds) := HB.out.below hb.out
      have HBW := hid_of hb.out
      have hz1000 : zs.length ≤ 1000 := by rw [HZL.out]; exact hll
      subst e
      clear hsm hsm' ho ho' hok hnz hk hkn hb
      go_wp2_with fail
      refine (rbest_all wr za zc zs HZA.out (by omega) HNUM.out bk bs HBEST).mono ?_
      rintro e w1 ⟨rfl, rfl⟩
      go_wp2_with fail
      refine (rput_of wr v ds (bk : Int) 5 HBV.out (by omega) (by decide) _ rfl).mono ?_
      rintro e w2 ⟨v2, rfl, h2⟩
      have H2 := hid_of h2
      clear h2
      go_wp2_with fail
      go_loopw [0, 43] (fun vv i ws => ∃ j : Nat, j ≤ zs.length ∧ i = .int .i64 (j : Int) ∧ Hid (OfAt wr ws vv (ds ++ dig (bk : Int) 5 ++ digs (zs.take j) bk))) (fun _ i _ => zs.length - (intOf i).toNat)
      case atStart => exact ⟨0, Nat.zero_le _, rfl, by show OfAt _ _ _ _; rw [List.take_zero]; simpa [digs] using H2.out⟩
      case round =>
        obtain ⟨j, hj, rfl, hof⟩ := hrel
        by_cases hjn : j < zs.length
        · obtain ⟨z, hz⟩ : ∃ z, zs[j]? = some z := ⟨zs[j], by simp [hjn]⟩
          obtain ⟨b, off, rfl, hc⟩ := HZA.out.mono hof.out.2 j z hz
          have hzn := HNUM.out z (List.mem_of_getElem? hz)
          have HZN' := hid_of hzn
          obtain ⟨E, hE⟩ : ∃ E, E = ds ++ dig (bk : Int) 5 ++ digs (zs.take (j + 1)) bk := ⟨_, rfl⟩
          have HE : Hid (E = ds ++ dig (bk : Int) 5 ++ digs (zs.take j) bk ++ riceDig z bk) := by
            show _ = _
            rw [hE, take_next zs j z hz, digs_snoc]
            simp only [List.append_assoc]
          have hlen : (ds ++ dig (bk : Int) 5 ++ digs (zs.take j) bk).length ≤ 900000 := by
            have := (length_digs (zs.take j) bk (fun y hy => HNUM.out y (List.mem_of_mem_take hy)) hbk).2
            rw [List.length_take] at this
            simp
            omega
          have HEE := hid_of hE
          have HBT := hid_of hof.out.bt
          have HB2 := hid_of hof.out.2
          clear hz hzn hE
          go_wp2_with fail
          refine (rrice_of wr _ _ z bk HBT.out hlen HZN'.out hbk E HE.out).mono ?_
          rintro e w3 ⟨v3, rfl, h3⟩
          have H3 : Hid (OfAt _ w3 v3 E) := h3.low HB2.out
          rw [HEE.out] at H3
          clear h3
          go_wp2_with fail
          exact ⟨⟨j + 1, by omega, by go_num, H3⟩, by (simp [intOf]) <;> omega⟩
        · have ej : j = zs.length := by omega
          have HF : Hid (OfAt w wr u0 D) := by
            have h1 := hof.out
            rw [ej, List.take_length, ← HD.out] at h1
            exact h1.low HBW.out
          clear hof
          subst ej
          go_wp2_with fail
          go_ret2
          rw [HT.out]
          exact ⟨_, rfl, fun _ => HF.out, HF.out.2⟩

end Go.Proofs.YtlonnoapbfjomabGreat
