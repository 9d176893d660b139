/- The texts Rice6, Zigs, Frm1, Lpc3, Lpc4, Lev5, one behind the other. -/
import Derived.Test.YthkfaackkcdcoaaPart04
import Derived.Test.YthkfaackkcdcoaaPart08
import Derived.Test.YthkfaackkcdcoaaPart02
import Derived.Test.YthkfaackkcdcoaaPart07
import Derived.BigQuiet

/- The document's own digits of a number: Rice. -/
namespace Go.Proofs.Ythkfaackkcdcoaa
set_option linter.unusedVariables false
set_option linter.unusedSimpArgs false
open Go.RowKit Dg

theorem dig_ones' : dig 16777215 24 = List.replicate 24 true := by decide

theorem rones_wat (w : World) (v : Value) (ds : List Bool) (n : Nat) (hbt : BtAt w v ds) (hsm : ds.length ≤ 1000000) (hn : n ≤ 1024) (I : Int) (hI : I = (n : Int)) :
    Calls Try.prog 94 #[v, .int .i64 I] w fun e w' => ∃ v', e = .returned (.tuple #[v', .bool true]) ∧ w'.ownsRow w.heap.size 5 1 v' (ds ++ (List.replicate n true ++ [false])).length (u8s (bn (ds ++ (List.replicate n true ++ [false])))) ∧ Below w.heap.size w w' := by
  subst hI
  exact rones_wany w v ds n hbt hsm hn

set_option maxHeartbeats 1000000 in
theorem rrice_bad (w : World) (v : Value) (z k : Int) (h : (isNum z && isPar k) = false) :
    Calls Try.prog 69 #[v, .int .i64 z, .int .i64 k] w fun e w' => e = .returned (.tuple #[v, .bool false]) ∧ w = w' := by
  have HM : Hid (false = (isNum z && isPar k)) := h.symm
  clear h
  go_enter Try.func69, Try.ntmps69
  go_wp2_with (go_at_call 92; refine (may_any z k w false HM.out).mono ?_; rintro e w2 ⟨rfl, rfl⟩)
  go_ret2
  exact ⟨rfl, rfl⟩

set_option maxHeartbeats 2000000 in
theorem rrice_any (w : World) (v : Value) (ds : List Bool) (z : Int) (k : Nat) (h : BtAt w v ds) (hlt : ds.length ≤ 900000) (hz : isNum z = true) (hk : k ≤ 24) :
    Calls Try.prog 69 #[v, .int .i64 z, .int .i64 k] w fun e w' => ∃ v', e = .returned (.tuple #[v', .bool true]) ∧ w'.ownsRow w.heap.size 5 1 v' (ds ++ riceDig z k).length (u8s (bn (ds ++ riceDig z k))) ∧ Below w.heap.size w w' := by
  have hp : isPar (k : Int) = true := by simp [isPar]; omega
  obtain ⟨h1, h2⟩ := isNum_true hz
  obtain ⟨h3, h4⟩ := quot_le z k h1
  have HM : Hid (true = (isNum z && isPar (k : Int))) := by show _ = _; rw [hz, hp]; rfl
  have HW : Hid (BtAt w v ds) := h
  clear hz hp h
  by_cases hr : 24 ≤ z / 2 ^ k
  · have HD : Hid (riceDig z k = List.replicate 24 true ++ dig z 32) := by show _ = _; simp only [riceDig]; rw [if_pos hr]
    obtain ⟨d1, hd1⟩ : ∃ d1, d1 = ds ++ dig 16777215 24 := ⟨_, rfl⟩
    have HD1 : Hid (d1 = ds ++ dig 16777215 24) := hd1
    have hl1 : d1.length ≤ 1000000 := by rw [hd1]; simp; omega
    clear hd1
    go_enter Try.func69, Try.ntmps69
    go_wp2_with first
      | (go_at_call 92; refine (may_any z k w true HM.out).mono ?_; rintro e w2 ⟨rfl, rfl⟩)
      | fail
    refine (rput_any w v ds 16777215 24 HW.out (by omega) (by decide)).mono ?_
    rw [← HD1.out]
    rintro e w1 ⟨v1, rfl, ho1, hb1⟩
    have HO1 : Hid (BtAt w1 v1 d1) := BtAt.of_owns ho1
    have HB1 : Hid (Below w.heap.size w w1) := hb1
    clear ho1 hb1
    go_wp2_with fail
    refine (rput_any w1 v1 d1 z 32 HO1.out hl1 (by decide)).mono ?_
    rintro e w2 ⟨v2, rfl, ho2, hb2⟩
    have HO2 : Hid (w2.ownsRow w1.heap.size 5 1 v2 (d1 ++ dig z 32).length (u8s (bn (d1 ++ dig z 32)))) := ho2
    have HB2 : Hid (Below w1.heap.size w1 w2) := hb2
    clear ho2 hb2
    go_wp2
    go_ret2
    have e : d1 ++ dig z 32 = ds ++ riceDig z k := by rw [HD1.out, dig_ones', List.append_assoc, ← HD.out]
    have hs := HB1.out.size
    have := HO2.out
    rw [e] at this
    exact ⟨_, rfl, ownsRow_base this hs, HB1.out.trans (HB2.out.mono hs)⟩
  · obtain ⟨q, hq⟩ : ∃ q : Nat, q = (z / 2 ^ k).toNat := ⟨_, rfl⟩
    have HD : Hid (riceDig z k = (List.replicate q true ++ [false]) ++ dig z k) := by show _ = _; simp only [riceDig]; rw [if_neg hr, hq]
    have hqz : z / 2 ^ k = (q : Int) := by omega
    have HQ : Hid (z / 2 ^ k = (q : Int)) := hqz
    have hq24 : q < 24 := by omega
    clear hq hqz
    obtain ⟨d1, hd1⟩ : ∃ d1, d1 = ds ++ (List.replicate q true ++ [false]) := ⟨_, rfl⟩
    have HD1 : Hid (d1 = ds ++ (List.replicate q true ++ [false])) := hd1
    have hl1 : d1.length ≤ 1000000 := by rw [hd1]; simp; omega
    clear hd1
    go_enter Try.func69, Try.ntmps69
    go_wp2_with first
      | (go_at_call 92; refine (may_any z k w true HM.out).mono ?_; rintro e w2 ⟨rfl, rfl⟩)
      | fail
    refine (rones_wat w v ds q HW.out (by omega) (by omega) _ HQ.out).mono ?_
    rw [← HD1.out]
    rintro e w1 ⟨v1, rfl, ho1, hb1⟩
    have HO1 : Hid (BtAt w1 v1 d1) := BtAt.of_owns ho1
    have HB1 : Hid (Below w.heap.size w w1) := hb1
    clear ho1 hb1
    go_wp2_with fail
    refine (rput_any w1 v1 d1 z k HO1.out hl1 (by omega)).mono ?_
    rintro e w2 ⟨v2, rfl, ho2, hb2⟩
    have HO2 : Hid (w2.ownsRow w1.heap.size 5 1 v2 (d1 ++ dig z k).length (u8s (bn (d1 ++ dig z k)))) := ho2
    have HB2 : Hid (Below w1.heap.size w1 w2) := hb2
    clear ho2 hb2
    go_wp2
    go_ret2
    have e : d1 ++ dig z k = ds ++ riceDig z k := by rw [HD1.out, List.append_assoc, ← HD.out]
    have hs := HB1.out.size
    have := HO2.out
    rw [e] at this
    exact ⟨_, rfl, ownsRow_base this hs, HB1.out.trans (HB2.out.mono hs)⟩

end Go.Proofs.Ythkfaackkcdcoaa

/- RiceZigs: the walk. -/
namespace Go.Proofs.Ythkfaackkcdcoaa
set_option linter.unusedVariables false
set_option linter.unusedSimpArgs false
open Go.RowKit Dg

set_option maxHeartbeats 1000000 in
theorem rzig_any (n : Int) (w : World) :
    Calls Try.prog 67 #[.int .i64 n] w fun e w' => e = .returned (.int .i64 (zigOf n)) ∧ w = w' := by
  by_cases h1 : n < -1099511627776
  · have e : zigOf n = 0 := by simp [zigOf, h1]
    rw [e]
    go_enter Try.func67, Try.ntmps67
    go_wp2
    go_ret
    exact ⟨rfl, rfl⟩
  · by_cases h2 : 1099511627776 ≤ n
    · have e : zigOf n = 0 := by simp [zigOf, h2]
      rw [e]
      go_enter Try.func67, Try.ntmps67
      go_wp2
      go_ret
      exact ⟨rfl, rfl⟩
    · by_cases h3 : n < 0
      · have e : zigOf n = -2 * n - 1 := by simp only [zigOf]; rw [if_neg (by omega), if_pos h3]
        rw [e]
        clear e
        go_enter Try.func67, Try.ntmps67
        go_wp2
        go_ret
        exact ⟨rfl, rfl⟩
      · have e : zigOf n = 2 * n := by simp only [zigOf]; rw [if_neg (by omega), if_neg h3]
        rw [e]
        clear e
        go_enter Try.func67, Try.ntmps67
        go_wp2
        go_ret
        exact ⟨rfl, rfl⟩

theorem zag_zig (n : Int) (h1 : -1099511627776 ≤ n) (h2 : n < 1099511627776) : zagOf (zigOf n) = n ∧ 0 ≤ zigOf n := by
  unfold zigOf
  rw [if_neg (by omega)]
  by_cases h : n < 0
  · rw [if_pos h]
    unfold zagOf
    rw [if_neg (by omega), if_pos (by omega)]
    omega
  · rw [if_neg h]
    unfold zagOf
    rw [if_neg (by omega), if_neg (by omega)]
    omega
theorem zig_zag (n : Int) (h1 : 0 ≤ n) (h2 : n < 2199023255552) : zigOf (zagOf n) = n := by
  unfold zagOf
  rw [if_neg (by omega)]
  by_cases h : n % 2 = 1
  · rw [if_pos h]
    unfold zigOf
    rw [if_neg (by omega), if_pos (by omega)]
    omega
  · rw [if_neg h]
    unfold zigOf
    rw [if_neg (by omega), if_neg (by omega)]
    omega

end Go.Proofs.Ythkfaackkcdcoaa

/- The document's own digits of a sample, of residuals. -/
namespace Go.Proofs.Ythkfaackkcdcoaa
set_option linter.unusedVariables false
set_option linter.unusedSimpArgs false
open Go.RowKit Dg

theorem OfAt.bt {w wr : World} {v : Value} {ds : List Bool} (h : OfAt w wr v ds) : BtAt wr v ds := BtAt.of_owns h.1
theorem OfAt.low {w w1 wr : World} {v : Value} {ds : List Bool} (h : OfAt w1 wr v ds) (hb : Below w.heap.size w w1) : OfAt w wr v ds := ⟨ownsRow_base h.1 hb.size, hb.trans (h.2.mono hb.size)⟩
theorem OfAt.drewN {w wr : World} {v : Value} {ds : List Bool} (h : OfAt w wr v ds) (n : Nat) : OfAt w (wr.drewN n) v ds := ⟨h.1, below_drewN h.2 n⟩
theorem BtAt.none (w : World) : BtAt w (.slice none 0 0) [] := .inl ⟨rfl, rfl⟩
/-- Put, as a walk spells it. -/
theorem rput_of (w : World) (v : Value) (ds : List Bool) (x : Int) (n : Nat) (hbt : BtAt w v ds) (hsm : ds.length ≤ 1000000) (hn : n ≤ 62) (D : List Bool) (hD : D = ds ++ dig x n) :
    Calls Try.prog 50 #[v, .int .i64 x, .int .i64 n] w fun e w' => ∃ v', e = .returned (.tuple #[v', .bool true]) ∧ OfAt w w' v' D := by
  refine (rput_any w v ds x n hbt hsm hn).mono ?_
  rintro e w' ⟨v', rfl, h1, h2⟩
  exact ⟨v', rfl, by rw [hD]; exact ⟨h1, h2⟩⟩
theorem rrice_of (w : World) (v : Value) (ds : List Bool) (z : Int) (k : Nat) (h : BtAt w v ds) (hlt : ds.length ≤ 900000) (hz : isNum z = true) (hk : k ≤ 24) (D : List Bool) (hD : D = ds ++ riceDig z k) :
    Calls Try.prog 69 #[v, .int .i64 z, .int .i64 k] w fun e w' => ∃ v', e = .returned (.tuple #[v', .bool true]) ∧ OfAt w w' v' D := by
  refine (rrice_any w v ds z k h hlt hz hk).mono ?_
  rintro e w' ⟨v', rfl, h1, h2⟩
  exact ⟨v', rfl, by rw [hD]; exact ⟨h1, h2⟩⟩

set_option maxHeartbeats 1000000 in
theorem rsample_any (w : World) (v : Value) (ds : List Bool) (x : Int) (h : BtAt w v ds) (hl : ds.length ≤ 1000000) (hx : isS x) (D : List Bool) (hD : D = ds ++ sampD x) :
    Calls Try.prog 51 #[v, .int .i64 x] w fun e w' => ∃ v', e = .returned v' ∧ OfAt w w' v' D := by
  obtain ⟨hx1, hx2⟩ := hx
  have HB := hid_of h
  have HD := hid_of hD
  clear h hD
  go_enter Try.func51, Try.ntmps51
  go_wp2_with fail
  refine (rput_of w v ds _ 24 HB.out hl (by decide) D HD.out).mono ?_
  rintro e w1 ⟨v1, rfl, h1⟩
  have H1 := hid_of h1
  clear h1
  go_wp2_with fail
  go_ret
  exact ⟨v1, rfl, H1.out⟩

theorem zigs_get {l : List Int} {k : Nat} {x : Int} (h : l[k]? = some x) : (zigs l)[k]? = some (zigOf x) := by unfold zigs; rw [List.getElem?_map, h]; rfl
theorem zigs_take (l : List Int) (k : Nat) : (zigs l).take k = zigs (l.take k) := by simp [zigs, List.map_take]

set_option maxRecDepth 100000 in
set_option maxHeartbeats 4000000 in
theorem rresiduals_any (w : World) (v : Value) (ds : List Bool) (a : Option Addr) (cap : Nat) (l : List Int) (h : BtAt w v ds) (hds : ds.length ≤ 100000) (hl : IntsAt w a l) (hll : l.length ≤ 1000) (D : List Bool) (hD : D = ds ++ residD l) :
    Calls Try.prog 53 #[v, .slice a l.length cap] w fun e w' => ∃ v', e = .returned (.tuple #[v', .bool (decide (okZ l))]) ∧ (okZ l → OfAt w w' v' D) ∧ Below w.heap.size w w' := by
  obtain ⟨i0, hi, hz0, hz1, hz2⟩ := info_parts Try.info3
  have HB := hid_of h
  have HL := hid_of hl
  obtain ⟨zs, hzs⟩ : ∃ zs, zs = zigs l := ⟨_, rfl⟩
  have HZL : Hid (zs.length = l.length) := by show _ = _; rw [hzs]; simp
  have HZG : Hid (∀ (k : Nat) (x : Int), l[k]? = some x → zs[k]? = some (zigOf x)) := by intro k x hx; rw [hzs]; exact zigs_get hx
  have HZO : Hid (okZ l ↔ ∀ z ∈ zs, z < 4294967296) := by show _ ↔ _; rw [hzs]; exact Iff.rfl
  have HZN : Hid (okZ l → ∀ z ∈ zs, isNum z = true) := by rw [hzs]; exact okZ_num
  obtain ⟨⟨bk, bs⟩, hbest⟩ : ∃ R, bestTo zs 24 = R := ⟨_, rfl⟩
  have HBEST := hid_of hbest
  have hbk : bk ≤ 24 := by have := bestTo_le zs 24; rw [hbest] at this; exact this
  have HD : Hid (D = ds ++ dig (bk : Int) 5 ++ digs zs bk) := by
    show _ = _
    have e : parOf l = bk := by unfold parOf; rw [← hzs, hbest]
    rw [hD, residD, e, ← hzs, List.append_assoc]
  clear h hl hzs hbest hD
  go_enter Try.func53, Try.ntmps53
  go_wp2_with fail
  go_loopw [6, 14] (fun vz i wr => ∃ k : Nat, k ≤ l.length ∧ i = .int .i64 (k : Int) ∧ Hid (∀ z ∈ zs.take k, z < 4294967296) ∧ Hid (OwnInts wr w.heap.size vz (zs.take k)) ∧ Hid (Below w.heap.size w wr)) (fun _ i _ => l.length - (intOf i).toNat)
  case atStart => exact ⟨0, Nat.zero_le _, rfl, fun z hz => by simp at hz, OwnInts.nil _ _, Below.refl _ _⟩
  case round =>
    obtain ⟨k, hk, rfl, hsm, ho, hb⟩ := hrel
    have hsz : w.heap.size ≤ wr.heap.size := hb.out.size
    by_cases hkn : k < l.length
    · obtain ⟨x, hx⟩ : ∃ x, l[k]? = some x := ⟨l[k], by simp [hkn]⟩
      obtain ⟨b, off, rfl, hc⟩ := HL.out.mono hb.out k x hx
      obtain ⟨z, hz⟩ : ∃ z, z = zigOf x := ⟨_, rfl⟩
      have HZ : Hid (zigOf x = z) := hz.symm
      have hzk : zs[k]? = some z := by rw [hz]; exact HZG.out k x hx
      have HNX := hid_of (take_next zs k z hzk)
      have hok : (zs.take k).length ≤ 1000000 := by rw [List.length_take, HZL.out]; omega
      by_cases hbig : 4294967296 ≤ z
      · have HN : Hid (¬ okZ l) := fun h1 => by have := HZO.out.1 h1 z (List.mem_of_getElem? hzk); omega
        have HF : Hid (decide (okZ l) = false) := decide_eq_false HN.out
        clear hx hz hzk
        go_wp2_with (go_at_call 67; refine (rzig_any _ _).mono ?_; rw [HZ.out]; rintro e w1 ⟨rfl, rfl⟩)
        go_ret2
        rw [HF.out]
        exact ⟨_, rfl, fun h1 => absurd h1 HN.out, hb.out⟩
      · have hbig' : z < 4294967296 := by omega
        have HSM : Hid (∀ y ∈ zs.take (k + 1), y < 4294967296) := by
          intro y hy
          rw [HNX.out] at hy
          rcases List.mem_append.1 hy with h1 | h1
          · exact hsm.out y h1
          · simp at h1; subst h1; exact hbig'
        clear hx hz hzk hsm
        go_wp2_with first
          | (go_at_call 67; refine (rzig_any _ _).mono ?_; rw [HZ.out]; rintro e w1 ⟨rfl, rfl⟩)
          | (at_builtin; go_must (refine wpList_append_int wr rfl (.tmp 25) (.tmp 27) 22 rfl w.heap.size i0 Try.underlying22 hi hz0 hz1 hz2 u6 (zs.take k) (by rfl) ho.out z (by rfl) hok hsz ?_))
        intro v' w' g1 g2
        have HO' : Hid (OwnInts w' w.heap.size v' (zs.take (k + 1))) := by rw [HNX.out]; exact g1
        have HB' : Hid (Below w.heap.size w w') := hb.out.trans g2.out
        clear g1 g2
        go_wp2_with fail
        exact ⟨⟨k + 1, by omega, by go_num, HSM, HO', HB'⟩, by (simp [intOf]) <;> omega⟩
    · have e : k = l.length := by omega
      have hsm' := hsm.out
      have ho' := ho.out
      rw [List.take_of_length_le (by rw [HZL.out]; omega)] at hsm' ho'
      have hok : okZ l := HZO.out.2 hsm'
      have HOK := hid_of hok
      have HT : Hid (decide (okZ l) = true) := decide_eq_true hok
      have HNUM := hid_of (HZN.out hok)
      obtain ⟨za, zc, hu6, hnz, -, -⟩ := ho'.ns
      subst hu6
      have HZA := hid_of hnz.at_
      have HBV : Hid (BtAt wr v ds) := HB.out.below hb.out
      have HBW := hid_of hb.out
      have hz1000 : zs.length ≤ 1000 := by rw [HZL.out]; exact hll
      subst e
      clear hsm hsm' ho ho' hok hnz hk hkn hb
      go_wp2_with fail
      refine (rbest_all wr za zc zs HZA.out (by omega) HNUM.out bk bs HBEST).mono ?_
      rintro e w1 ⟨rfl, rfl⟩
      go_wp2_with fail
      refine (rput_of wr v ds (bk : Int) 5 HBV.out (by omega) (by decide) _ rfl).mono ?_
      rintro e w2 ⟨v2, rfl, h2⟩
      have H2 := hid_of h2
      clear h2
      go_wp2_with fail
      go_loopw [0, 43] (fun vv i ws => ∃ j : Nat, j ≤ zs.length ∧ i = .int .i64 (j : Int) ∧ Hid (OfAt wr ws vv (ds ++ dig (bk : Int) 5 ++ digs (zs.take j) bk))) (fun _ i _ => zs.length - (intOf i).toNat)
      case atStart => exact ⟨0, Nat.zero_le _, rfl, by show OfAt _ _ _ _; rw [List.take_zero]; simpa [digs] using H2.out⟩
      case round =>
        obtain ⟨j, hj, rfl, hof⟩ := hrel
        by_cases hjn : j < zs.length
        · obtain ⟨z, hz⟩ : ∃ z, zs[j]? = some z := ⟨zs[j], by simp [hjn]⟩
          obtain ⟨b, off, rfl, hc⟩ := HZA.out.mono hof.out.2 j z hz
          have hzn := HNUM.out z (List.mem_of_getElem? hz)
          have HZN' := hid_of hzn
          obtain ⟨E, hE⟩ : ∃ E, E = ds ++ dig (bk : Int) 5 ++ digs (zs.take (j + 1)) bk := ⟨_, rfl⟩
          have HE : Hid (E = ds ++ dig (bk : Int) 5 ++ digs (zs.take j) bk ++ riceDig z bk) := by
            show _ = _
            rw [hE, take_next zs j z hz, digs_snoc]
            simp only [List.append_assoc]
          have hlen : (ds ++ dig (bk : Int) 5 ++ digs (zs.take j) bk).length ≤ 900000 := by
            have := (length_digs (zs.take j) bk (fun y hy => HNUM.out y (List.mem_of_mem_take hy)) hbk).2
            rw [List.length_take] at this
            simp
            omega
          have HEE := hid_of hE
          have HBT := hid_of hof.out.bt
          have HB2 := hid_of hof.out.2
          clear hz hzn hE
          go_wp2_with fail
          refine (rrice_of wr _ _ z bk HBT.out hlen HZN'.out hbk E HE.out).mono ?_
          rintro e w3 ⟨v3, rfl, h3⟩
          have H3 : Hid (OfAt _ w3 v3 E) := h3.low HB2.out
          rw [HEE.out] at H3
          clear h3
          go_wp2_with fail
          exact ⟨⟨j + 1, by omega, by go_num, H3⟩, by (simp [intOf]) <;> omega⟩
        · have ej : j = zs.length := by omega
          have HF : Hid (OfAt w wr u0 D) := by
            have h1 := hof.out
            rw [ej, List.take_length, ← HD.out] at h1
            exact h1.low HBW.out
          clear hof
          subst ej
          go_wp2_with fail
          go_ret2
          rw [HT.out]
          exact ⟨_, rfl, fun _ => HF.out, HF.out.2⟩

end Go.Proofs.Ythkfaackkcdcoaa

/- The document's own answers of chapter 6: down, Guess, MayCoefs. -/
namespace Go.Proofs.Ythkfaackkcdcoaa
set_option linter.unusedVariables false
set_option linter.unusedSimpArgs false
open Go.RowKit Dg

theorem tdiv_low {s : Int} (h : s < 0) (h0 : s.tmod 4096 = 0) : s.tdiv 4096 = s / 4096 := by
  have h1 := Int.mul_tdiv_add_tmod s 4096
  omega
theorem tdiv_down {s : Int} (h : s < 0) (h0 : s.tmod 4096 ≠ 0) : s.tdiv 4096 - 1 = s / 4096 := by
  have h1 := Int.mul_tdiv_add_tmod s 4096
  have h2 : s.tmod 4096 = -((-s).tmod 4096) := by rw [Int.neg_tmod]; omega
  have h3 : (-s).tmod 4096 = (-s) % 4096 := Int.tmod_eq_emod_of_nonneg (by omega)
  omega
set_option maxHeartbeats 1000000 in
theorem rdown_any (w : World) (s g : Int) (h1 : -6597069766656 ≤ s) (h2 : s ≤ 6597069766656) (hg : s / 4096 = g) :
    Calls Try.prog 72 #[.int .i64 s, .int .i64 4096] w fun e w' => e = .returned (.int .i64 g) ∧ w = w' := by
  have HG := hid_of hg
  clear hg
  by_cases h0 : 0 ≤ s
  · go_enter Try.func72, Try.ntmps72
    go_wp2_with fail
    all_goals
      rw [HG.out]
      go_ret
      exact ⟨rfl, rfl⟩
  · have hneg : s < 0 := by omega
    by_cases hm : s.tmod 4096 = 0
    · have ht := tdiv_low hneg hm
      have hmb : (s.tmod 4096 != 0) = false := by simpa using hm
      have HT := hid_of ht
      clear ht
      go_enter Try.func72, Try.ntmps72
      go_wp2_with fail
      rw [HT.out, HG.out]
      go_ret
      exact ⟨rfl, rfl⟩
    · have ht := tdiv_down hneg hm
      have hmb : (s.tmod 4096 != 0) = true := by simpa using hm
      have HW : Hid (wrap64 (s.tdiv 4096 - 1) = g) := by
        show _ = _
        rw [ht, HG.out]
        exact Go.IntWalk.wrap64_in _ (by have := HG.out; omega)
      clear ht
      go_enter Try.func72, Try.ntmps72
      go_wp2_with fail
      rw [HW.out]
      go_ret
      exact ⟨rfl, rfl⟩

set_option maxRecDepth 100000 in
set_option maxHeartbeats 2000000 in
theorem rguess_any (w : World) (a ca : Option Addr) (n m cap cc : Nat) (past cs : List Int) (hn : past.length = n) (hm : cs.length = m) (h : IntsAt w a past) (hc : IntsAt w ca cs) (hl : past.length ≤ 1000000) (hcl : cs.length ≤ 1000000) (g : Int) (hg : g = lguess past cs) :
    Calls Try.prog 74 #[.slice a n cap, .slice ca m cc] w fun e w' => e = .returned (.int .i64 g) ∧ ∃ d, w' = w.drewN d := by
  subst hn hm
  have H : Hid (IntsAt w a past) := h
  have HC : Hid (IntsAt w ca cs) := hc
  have HG : Hid (g = lguess past cs) := hg
  clear h hc hg
  obtain ⟨q, hq⟩ : ∃ q, q = terms past cs := ⟨_, rfl⟩
  obtain ⟨hq1, hq2, hq3⟩ := terms_le past cs
  rw [← hq] at hq1 hq2 hq3
  have HQ := hid_of hq
  clear hq
  go_enter Try.func74, Try.ntmps74
  go_wp2_with fail
  go_loopw [5, 6] (fun s i wr => ∃ (k d : Nat) (t : Int), k ≤ q ∧ s = .int .i64 t ∧ i = .int .i64 k ∧ Hid (t = lsum past cs k) ∧ wr = w.drewN d) (fun _ i _ => q - (intOf i).toNat)
  case atStart => exact ⟨0, 0, 0, Nat.zero_le _, rfl, rfl, rfl, rfl⟩
  case round =>
    obtain ⟨k, d, t, hk, rfl, rfl, ht, rfl⟩ := hrel
    have htb := lsum_small past cs k
    rw [← ht.out] at htb
    obtain ⟨ht1, ht2⟩ := htb
    have ht1' : -6597069766656 ≤ t := by omega
    have ht2' : t ≤ 6597069766656 := by omega
    clear ht1 ht2
    by_cases hkn : k < q
    · obtain ⟨c, hcx⟩ : ∃ x, cs[k]? = some x := ⟨cs[k]'(by omega), by simp⟩
      obtain ⟨b1, o1, rfl, hc1⟩ := HC.out k c hcx
      obtain ⟨m, hm⟩ : ∃ m, m = past.length - 1 - k := ⟨_, rfl⟩
      have hml : m < past.length := by omega
      obtain ⟨x, hx⟩ : ∃ x, past[m]? = some x := ⟨past[m], by simp [hml]⟩
      obtain ⟨b2, o2, rfl, hc2⟩ := H.out m x hx
      have hmI : (past.length : Int) - 1 - (k : Int) = (m : Int) := by omega
      have HNX : Hid (t + term c x = lsum past cs (k + 1)) := by
        show _ = _
        simp only [lsum]
        rw [getD_of hcx, ← hm, getD_of hx, ← ht.out]
      have hkc : k < cs.length := by omega
      have hkp : k < past.length := by omega
      have hkk : k < 12 := by omega
      clear hm hcx hx
      by_cases hall : -32768 ≤ c ∧ c ≤ 32767 ∧ -16777216 ≤ x ∧ x ≤ 16777216
      · obtain ⟨hc3, hc4, hx1, hx2⟩ := hall
        obtain ⟨p, hp⟩ : ∃ p, p = c * x := ⟨_, rfl⟩
        have hp12 := mul_bound ⟨hc3, hc4⟩ ⟨hx1, hx2⟩
        rw [← hp] at hp12
        obtain ⟨hp1, hp2⟩ := hp12
        have HP : Hid (c * x = p) := hp.symm
        have HN : Hid (t + p = lsum past cs (k + 1)) := by
          show _ = _
          rw [← HNX.out]; unfold term; rw [if_pos ⟨⟨hc3, hc4⟩, hx1, hx2⟩, hp]
        clear hp
        go_wp2_with fail
        go_quiet (fail)
        go_wp2_with fail
        rw [HP.out, Go.IntWalk.wrap64_in p (by omega), Go.IntWalk.wrap64_in (t + p) (by omega)]
        exact ⟨⟨k + 1, d + nq, t + p, by omega, rfl, by go_num, HN, rfl⟩, by (simp [intOf]) <;> omega⟩
      · have HN : Hid (t = lsum past cs (k + 1)) := by
          show _ = _
          rw [← HNX.out]; unfold term; rw [if_neg (fun h => hall ⟨h.1.1, h.1.2, h.2.1, h.2.2⟩)]; omega
        rcases (by omega : c < -32768 ∨ (-32768 ≤ c ∧ 32767 < c) ∨ (-32768 ≤ c ∧ c ≤ 32767 ∧ x < -16777216) ∨ (-32768 ≤ c ∧ c ≤ 32767 ∧ -16777216 ≤ x ∧ 16777216 < x)) with hA | ⟨hA, hB⟩ | ⟨hA, hB, hD⟩ | ⟨hA, hB, hD, hE⟩
        all_goals
          clear hall
          go_wp2_with fail
          go_quiet (fail)
          go_wp2_with fail
          exact ⟨⟨k + 1, d + nq, t, by omega, rfl, by go_num, HN, rfl⟩, by (simp [intOf]) <;> omega⟩
    · have e : k = q := by omega
      have HE : Hid (t / 4096 = g) := by show _ = _; rw [ht.out, HG.out, e, HQ.out]; rfl
      have hend : ¬ (k < cs.length ∧ k < past.length ∧ k < 12) := by have h2 := HQ.out; unfold terms at h2; omega
      clear e hk hkn HQ hq1 hq2 hq3
      rcases (by omega : cs.length ≤ k ∨ (k < cs.length ∧ past.length ≤ k) ∨ (k < cs.length ∧ k < past.length ∧ 12 ≤ k)) with hA | ⟨hA, hB⟩ | ⟨hA, hB, hD⟩
      all_goals
        clear hend
        go_wp2_with (go_at_call 72; refine (rdown_any _ _ g ht1' ht2' HE.out).mono ?_; rintro e w1 ⟨rfl, rfl⟩)
        go_ret
        exact ⟨rfl, d, rfl⟩

set_option maxHeartbeats 1000000 in
theorem rcoefs6_any (w : World) (a : Option Addr) (cap : Nat) (l : List Int) (h : IntsAt w a l) (hl : l.length ≤ 1000000) (t : Bool) (ht : t = decide (areC l)) :
    Calls Try.prog 73 #[.slice a l.length cap] w fun e w' => e = .returned (.bool t) ∧ w = w' := by
  have H : Hid (IntsAt w a l) := h
  have HT : Hid (t = decide (areC l)) := ht
  clear h ht
  go_enter Try.func73, Try.ntmps73
  go_wp2_with fail
  go_loopw [6] (fun i wr => ∃ k : Nat, k ≤ l.length ∧ i = .int .i64 k ∧ Hid (allC (l.take k)) ∧ w = wr) (fun i _ => l.length - (intOf i).toNat)
  case atStart => exact ⟨0, Nat.zero_le _, rfl, fun x hx => by simp at hx, rfl⟩
  case round =>
    obtain ⟨k, hk, rfl, hall, rfl⟩ := hrel
    by_cases hkn : k < l.length
    · obtain ⟨x, hx⟩ : ∃ x, l[k]? = some x := ⟨l[k], by simp [hkn]⟩
      obtain ⟨b, off, rfl, hc⟩ := H.out k x hx
      have HX : Hid (l[k]? = some x) := hx
      clear hx
      have hbad : ¬ isC x → t = false := fun hn => by
        rw [HT.out]
        exact decide_eq_false (fun ha => hn (ha.2.2 x (List.mem_of_getElem? HX.out)))
      by_cases hlo : x < -32768
      · have ht := hbad (by unfold isC; omega)
        subst ht
        clear hbad
        go_wp2_with fail
        go_ret
        exact ⟨rfl, rfl⟩
      · by_cases hhi : 32767 < x
        · have ht := hbad (by unfold isC; omega)
          subst ht
          clear hbad
          go_wp2_with fail
          go_ret
          exact ⟨rfl, rfl⟩
        · clear hbad
          go_wp2_with fail
          refine ⟨⟨k + 1, by omega, by go_num, ?_, by trivial⟩, by (simp [intOf]) <;> omega⟩
          show allC _
          rw [take_next l k x HX.out]
          exact hall.out.snoc (by unfold isC; omega)
    · have e : k = l.length := by omega
      subst e
      have ha := hall.out
      rw [List.take_length] at ha
      clear hall hk hkn
      rcases (by omega : l.length < 1 ∨ (1 ≤ l.length ∧ l.length ≤ 12) ∨ (1 ≤ l.length ∧ 12 < l.length)) with h1 | ⟨h1, h2⟩ | ⟨h1, h2⟩
      · have ht : t = false := by rw [HT.out]; exact decide_eq_false (fun h => by have := h.1; omega)
        subst ht
        go_wp2_with fail
        go_ret
        exact ⟨rfl, rfl⟩
      · have ht : t = true := by rw [HT.out]; exact decide_eq_true ⟨h1, h2, ha⟩
        subst ht
        have hb12 : decide ((l.length : Int) ≤ 12) = true := by simp; omega
        go_wp2_with fail
        go_ret
        exact ⟨rfl, rfl⟩
      · have ht : t = false := by rw [HT.out]; exact decide_eq_false (fun h => by have := h.2.1; omega)
        subst ht
        have hb12 : decide ((l.length : Int) ≤ 12) = false := by simp; omega
        go_wp2_with fail
        go_ret
        exact ⟨rfl, rfl⟩

end Go.Proofs.Ythkfaackkcdcoaa

/- The document's own LpcResidual and LpcRestore. -/
namespace Go.Proofs.Ythkfaackkcdcoaa
set_option linter.unusedVariables false
set_option linter.unusedSimpArgs false
open Go.RowKit Dg

theorem rguess_below (w : World) (a ca : Option Addr) (n m cap cc : Nat) (past cs : List Int) (hn : past.length = n) (hm : cs.length = m) (h : IntsAt w a past) (hc : IntsAt w ca cs) (hl : past.length ≤ 1000000) (hcl : cs.length ≤ 1000000) (g : Int) (hg : g = lguess past cs) :
    Calls Try.prog 74 #[.slice a n cap, .slice ca m cc] w fun e w' => e = .returned (.int .i64 g) ∧ Below w.heap.size w w' := by
  refine (rguess_any w a ca n m cap cc past cs hn hm h hc hl hcl g hg).mono ?_
  rintro e w' ⟨rfl, d, rfl⟩
  exact ⟨rfl, below_drewN (Below.refl _ _) d⟩

set_option maxRecDepth 100000 in
set_option maxHeartbeats 4000000 in
theorem rlresid_any (w : World) (a ca : Option Addr) (cap cc : Nat) (l cs : List Int) (h : Ns w a cap l) (hc : IntsAt w ca cs) (hl : l.length ≤ 1000000) (hcl : cs.length ≤ 1000000) (R : List Int × Int) (hR : R = lresOut l cs) :
    Calls Try.prog 55 #[.slice a l.length cap, .slice ca cs.length cc] w fun e w' => Gave w w' R e := by
  obtain ⟨i0, hi, hz0, hz1, hz2⟩ := info_parts Try.info3
  unfold lresOut at hR
  have H : Hid (Ns w a cap l) := h
  have HC : Hid (IntsAt w ca cs) := hc
  clear h hc
  by_cases h1 : areC cs
  case neg =>
    rw [if_pos (.inl h1)] at hR
    have HR : Hid (R = ([], 1)) := hR
    have HA : Hid (false = decide (areC cs)) := (decide_eq_false h1).symm
    clear hR h1
    go_enter Try.func55, Try.ntmps55
    go_wp2_with (go_at_call 73; refine (rcoefs6_any _ _ _ _ HC.out hcl false HA.out).mono ?_; rintro e w1 ⟨rfl, rfl⟩)
    go_ret2
    exact Gave.none HR.out (Below.refl _ _)
  have HA : Hid (true = decide (areC cs)) := (decide_eq_true h1).symm
  have HC1 : Hid (areC cs) := h1
  have hc12 : cs.length ≤ 12 := h1.2.1
  by_cases h2 : l.length < cs.length
  · rw [if_pos (.inr h2)] at hR
    have HR : Hid (R = ([], 1)) := hR
    clear hR h1
    go_enter Try.func55, Try.ntmps55
    go_wp2_with (go_at_call 73; refine (rcoefs6_any _ _ _ _ HC.out hcl true HA.out).mono ?_; rintro e w1 ⟨rfl, rfl⟩)
    go_ret2
    exact Gave.none HR.out (Below.refl _ _)
  rw [if_neg (by simp [h1, h2])] at hR
  clear h1
  have h2' : cs.length ≤ l.length := by omega
  by_cases hS : allS l
  case neg =>
    rw [if_neg hS] at hR
    have HT : Hid (8 = mayZ l) := by show _ = _; unfold mayZ; rw [if_neg hS]
    have HR : Hid (R = ([], 8)) := hR
    clear hR hS
    go_enter Try.func55, Try.ntmps55
    go_wp2_with first
      | (go_at_call 73; refine (rcoefs6_any _ _ _ _ HC.out hcl true HA.out).mono ?_; rintro e w1 ⟨rfl, rfl⟩)
      | (go_at_call 34; refine (rmay_any _ _ _ _ H.out.at_ hl 8 HT.out).mono ?_; rintro e w1 ⟨rfl, rfl⟩)
    go_ret2
    exact Gave.none HR.out (Below.refl _ _)
  case pos =>
    rw [if_pos hS] at hR
    by_cases h64 : 64 < l.length
    · rw [if_pos h64] at hR
      have HT : Hid (4 = mayZ l) := by show _ = _; unfold mayZ; rw [if_pos hS, if_pos h64]
      have HR : Hid (R = ([], 4)) := hR
      clear hR hS
      go_enter Try.func55, Try.ntmps55
      go_wp2_with first
        | (go_at_call 73; refine (rcoefs6_any _ _ _ _ HC.out hcl true HA.out).mono ?_; rintro e w1 ⟨rfl, rfl⟩)
        | (go_at_call 34; refine (rmay_any _ _ _ _ H.out.at_ hl 4 HT.out).mono ?_; rintro e w1 ⟨rfl, rfl⟩)
      go_ret2
      exact Gave.none HR.out (Below.refl _ _)
    · rw [if_neg h64] at hR
      have HT : Hid (0 = mayZ l) := by show _ = _; unfold mayZ; rw [if_pos hS, if_neg h64]
      have HR : Hid (R = (lresidZ l cs, 0)) := hR
      have HS : Hid (allS l) := hS
      clear hR hS
      go_enter Try.func55, Try.ntmps55
      go_wp2_with first
        | (go_at_call 73; refine (rcoefs6_any _ _ _ _ HC.out hcl true HA.out).mono ?_; rintro e w1 ⟨rfl, rfl⟩)
        | (go_at_call 34; refine (rmay_any _ _ _ _ H.out.at_ hl 0 HT.out).mono ?_; rintro e w1 ⟨rfl, rfl⟩)
      go_loopw [7, 8] (fun v i wr => ∃ (k : Nat), cs.length ≤ k ∧ k ≤ l.length ∧ i = .int .i64 (k : Int) ∧ Hid (OwnInts wr w.heap.size v ((lresidZ l cs).take (k - cs.length))) ∧ Hid (Below w.heap.size w wr)) (fun _ i _ => l.length - (intOf i).toNat)
      case atStart => exact ⟨cs.length, Nat.le_refl _, h2', rfl, by rw [Nat.sub_self]; exact OwnInts.nil _ _, Below.refl _ _⟩
      case round =>
        obtain ⟨k, hnk, hkl, rfl, ho, hb⟩ := hrel
        by_cases hk : k < l.length
        · obtain ⟨x, hx⟩ : ∃ x, l[k]? = some x := ⟨l[k], by simp [hk]⟩
          have hat := H.out.at_.mono hb.out
          obtain ⟨b, off, rfl, hc⟩ := hat k x hx
          have hs1 := slice_ints (some ⟨b, off, none⟩) l.length cap k (by have := H.out.le; omega)
          have HTL : Hid ((l.take k).length = k) := by show _ = _; simp; omega
          have HTK : Hid (IntsAt wr (some ⟨b, off, none⟩) (l.take k)) := hat.take k
          have HC2 : Hid (IntsAt wr ca cs) := HC.out.mono hb.out
          obtain ⟨g, hg⟩ : ∃ g, g = lguess (l.take k) cs := ⟨_, rfl⟩
          have HG : Hid (g = lguess (l.take k) cs) := hg
          obtain ⟨hg1, hg2⟩ := lguess_small (l.take k) cs
          rw [← hg] at hg1 hg2
          obtain ⟨hx1, hx2⟩ := HS.out x (List.mem_of_getElem? hx)
          obtain ⟨y, hy⟩ : ∃ y, y = x - g := ⟨_, rfl⟩
          have HNX : Hid ((lresidZ l cs).take (k + 1 - cs.length) = (lresidZ l cs).take (k - cs.length) ++ [x - g]) := lresidZ_next l cs k hnk hk _ (by rw [getD_of hx, ← hg])
          have hol : ((lresidZ l cs).take (k - cs.length)).length ≤ 1000000 := by simp; omega
          have hsz : w.heap.size ≤ wr.heap.size := hb.out.size
          clear hx hg hat
          go_wp2_with fail
          have HW : Hid (IntKind.i64.wrap (x - g) = x - g) := Go.IntWalk.i64_in _ (by omega)
          go_region_law first
            | (go_simp; go_at_call 74; refine (rguess_below wr.drew _ _ _ _ _ _ _ _ HTL.out rfl HTK.out HC2.out (by rw [HTL.out]; omega) hcl g HG.out).mono ?_; rintro e w2 ⟨rfl, hb2⟩; have hc2 : w2.cell? ⟨b, off + k, none⟩ = some (.int .i64 x) := (hb2.cell (p := ⟨b, off + k, none⟩) (World.block_lt_of_cell? wr _ hc)).trans hc; have HO2 : Hid (OwnInts w2 w.heap.size u7 ((lresidZ l cs).take (k - cs.length))) := OwnInts.mono (w := wr.drew) (World.ownsRow.drew ho.out) hb2; have HB2 : Hid (Below w.heap.size w w2) := hb.out.drew.trans (hb2.mono hsz); have hsz2 : w.heap.size ≤ w2.heap.size := Nat.le_trans hsz hb2.size; clear hb2)
            | (refine step_append_int w2 rfl (.tmp 32) (.tmp 43) 22 rfl w.heap.size i0 Try.underlying22 hi hz0 hz1 hz2 u7 ((lresidZ l cs).take (k - cs.length)) (by rfl) HO2.out (IntKind.i64.wrap (x - g)) (by rfl) hol hsz2 ?_; intro v' w' h1 h2)
          all_goals
            rw [HW.out, ← HNX.out] at h1
            have HB' : Hid (Below w.heap.size w w') := HB2.out.trans h2.out
            clear h2
            go_wp2_with fail
            exact ⟨⟨k + 1, by omega, by omega, by go_num, h1, HB'⟩, by (simp [intOf]) <;> omega⟩
        · have e : k = l.length := by omega
          subst e
          have ho' := ho.out
          rw [List.take_of_length_le (by simp)] at ho'
          have HO : Hid (OwnInts wr w.heap.size _ (lresidZ l cs)) := ho'
          clear ho ho'
          go_wp2_with fail
          go_ret2
          rw [HR.out]
          exact ⟨_, rfl, HO.out, hb.out⟩

end Go.Proofs.Ythkfaackkcdcoaa

/- The document's own Auto and Scaled; its example. -/
namespace Go.Proofs.Ythkfaackkcdcoaa
set_option linter.unusedVariables false
set_option linter.unusedSimpArgs false
open Go.RowKit Dg

theorem autoL_take (x : List Int) {k n : Nat} (h : k ≤ n) : (autoL x n).take k = autoL x k := by
  unfold autoL
  rw [← List.map_take, List.take_range, Nat.min_eq_left h]

set_option maxRecDepth 100000 in
set_option maxHeartbeats 4000000 in
theorem rauto_any (w : World) (a : Option Addr) (cap : Nat) (l : List Int) (o : Int) (h : IntsAt w a l) (hl : l.length ≤ 1000000) (R : List Int × Int) (hR : R = autoOut l o) :
    Calls Try.prog 70 #[.slice a l.length cap, .int .i64 o] w fun e w' => Gave w w' R e := by
  obtain ⟨i0, hi, hz0, hz1, hz2⟩ := info_parts Try.info3
  unfold autoOut at hR
  have H : Hid (IntsAt w a l) := h
  clear h
  by_cases h1 : o < 0 ∨ 12 < o
  · rw [if_pos h1] at hR
    have HR := hid_of hR
    clear hR
    rcases (by omega : o < 0 ∨ (0 ≤ o ∧ 12 < o)) with h2 | ⟨h2, h3⟩
    all_goals
      clear h1
      go_enter Try.func70, Try.ntmps70
      go_wp2_with fail
      go_ret2
      exact Gave.none HR.out (Below.refl _ _)
  rw [if_neg h1] at hR
  obtain ⟨h2, h3⟩ : 0 ≤ o ∧ o ≤ 12 := by omega
  clear h1
  by_cases hS : allS l
  case neg =>
    rw [if_neg hS] at hR
    have HT : Hid (8 = mayZ l) := by show _ = _; unfold mayZ; rw [if_neg hS]
    have HR := hid_of hR
    clear hR hS
    go_enter Try.func70, Try.ntmps70
    go_wp2_with (go_at_call 34; refine (rmay_any _ _ _ _ H.out hl 8 HT.out).mono ?_; rintro e w1 ⟨rfl, rfl⟩)
    go_ret2
    exact Gave.none HR.out (Below.refl _ _)
  rw [if_pos hS] at hR
  by_cases h64 : 64 < l.length
  · rw [if_pos h64] at hR
    have HT : Hid (4 = mayZ l) := by show _ = _; unfold mayZ; rw [if_pos hS, if_pos h64]
    have HR := hid_of hR
    clear hR hS
    go_enter Try.func70, Try.ntmps70
    go_wp2_with (go_at_call 34; refine (rmay_any _ _ _ _ H.out hl 4 HT.out).mono ?_; rintro e w1 ⟨rfl, rfl⟩)
    go_ret2
    exact Gave.none HR.out (Below.refl _ _)
  rw [if_neg h64] at hR
  have HT : Hid (0 = mayZ l) := by show _ = _; unfold mayZ; rw [if_pos hS, if_neg h64]
  have HS : Hid (allS l) := hS
  obtain ⟨n, hn⟩ : ∃ n : Nat, o = (n : Int) := ⟨o.toNat, by omega⟩
  subst hn
  rw [Int.toNat_natCast] at hR
  have HR := hid_of hR
  have hn12 : n ≤ 12 := by omega
  have h64' : l.length ≤ 64 := by omega
  clear hR hS h64 h2 h3
  go_enter Try.func70, Try.ntmps70
  go_wp2_with (go_at_call 34; refine (rmay_any _ _ _ _ H.out hl 0 HT.out).mono ?_; rintro e w1 ⟨rfl, rfl⟩)
  go_loopw [7, 8] (fun v i wr => ∃ k : Nat, k ≤ n + 1 ∧ i = .int .i64 (k : Int) ∧ Hid (OwnInts wr w.heap.size v (autoL l k)) ∧ Hid (Below w.heap.size w wr)) (fun _ i _ => n + 1 - (intOf i).toNat)
  case atStart => exact ⟨0, Nat.zero_le _, rfl, OwnInts.nil _ _, Below.refl _ _⟩
  case round =>
    obtain ⟨k, hk, rfl, ho, hb⟩ := hrel
    by_cases hkN : k ≤ n
    · have hkb : decide ((k : Int) ≤ (n : Int)) = true := decide_eq_true (by omega)
      have hkb2 : decide (k ≤ n) = true := decide_eq_true hkN
      have hok : (autoL l k).length ≤ 1000000 := by simp; omega
      have hsz : w.heap.size ≤ wr.heap.size := hb.out.size
      have HAT : Hid (IntsAt wr a l) := H.out.mono hb.out
      go_wp2_with fail
      go_loopw [9, 10] (fun s i ws => ∃ (m d : Nat) (t : Int), s = .int .i64 t ∧ i = .int .i64 ((k + m : Nat) : Int) ∧ (k + m ≤ l.length ∨ m = 0) ∧ Hid (t = corr l k m) ∧ ws = wr.drewN d) (fun _ i _ => l.length - (intOf i).toNat)
      case atStart => exact ⟨0, 0, 0, rfl, rfl, .inr rfl, rfl, rfl⟩
      case round =>
        obtain ⟨m, d, t, rfl, rfl, hm, ht, rfl⟩ := hrel
        by_cases hml : k + m < l.length
        · obtain ⟨i, hik⟩ : ∃ i, i = k + m := ⟨_, rfl⟩
          obtain ⟨x, hx⟩ : ∃ x, l[i]? = some x := ⟨l[i]'(by omega), by simp⟩
          obtain ⟨y, hy⟩ : ∃ y, l[m]? = some y := ⟨l[m]'(by omega), by simp⟩
          obtain ⟨b1, o1, rfl, hc1⟩ := HAT.out i x hx
          have hc2 : wr.cell? ⟨b1, o1 + m, none⟩ = some (.int .i64 y) := by
            obtain ⟨b2, o2, e2, hc2⟩ := HAT.out m y hy
            cases e2
            exact hc2
          have hiI : (i : Int) - (k : Int) = (m : Int) := by omega
          have hil : i < l.length := by omega
          have hmL : m < l.length := by omega
          have htb := corr_small HS.out k m
          rw [← ht.out] at htb
          obtain ⟨ht1, ht2⟩ := htb
          have ht1' : -9007199254740992 ≤ t := by omega
          have ht2' : t ≤ 9007199254740992 := by omega
          clear ht1 ht2
          obtain ⟨p, hp⟩ : ∃ p, p = x * y := ⟨_, rfl⟩
          have hp12 := mul_s (HS.out x (List.mem_of_getElem? hx)) (HS.out y (List.mem_of_getElem? hy))
          rw [← hp] at hp12
          obtain ⟨hp1, hp2⟩ := hp12
          have HP : Hid (x * y = p) := hp.symm
          have HN : Hid (t + p = corr l k (m + 1)) := by show _ = _; rw [corr_next hik hx hy, ← ht.out, hp]
          have HI1 : Hid (i + 1 = k + (m + 1)) := by show _ = _; omega
          rw [← hik]
          clear hik hm hml hx hy hp
          go_wp2_with fail
          go_quiet (fail)
          go_wp2_with fail
          rw [HP.out, Go.IntWalk.wrap64_in p (by omega), Go.IntWalk.wrap64_in (t + p) (by omega)]
          exact ⟨⟨m + 1, d + nq, t + p, rfl, by rw [← HI1.out]; go_num, .inl (by have := HI1.out; omega), HN, rfl⟩, by (simp [intOf]) <;> omega⟩
        · have e1 : t = autoZ l k := by
            rw [ht.out]
            unfold autoZ
            rcases hm with h | h
            · rw [show l.length - k = m by omega]
            · subst h
              rw [show l.length - k = 0 by omega]
          have HE : Hid (autoL l (k + 1) = autoL l k ++ [t]) := by show _ = _; rw [e1]; exact autoL_next l k
          obtain ⟨i, hik⟩ : ∃ i, i = k + m := ⟨_, rfl⟩
          have hil : l.length ≤ i := by omega
          rw [← hik]
          clear hik hm hml e1 ht
          go_wp2_with (at_builtin; go_must (refine wpList_append_int (wr.drewN d) rfl (.tmp 47) (.tmp 49) 22 rfl w.heap.size i0 Try.underlying22 hi hz0 hz1 hz2 u7 (autoL l k) (by rfl) (ho.out.drewN d) t (by rfl) hok hsz ?_))
          intro v' w' h1 h2
          have HO' : Hid (OwnInts w' w.heap.size v' (autoL l (k + 1))) := by rw [HE.out]; exact h1
          have HB' : Hid (Below w.heap.size w w') := (below_drewN hb.out d).trans h2.out
          clear h1 h2
          go_wp2_with fail
          exact ⟨⟨k + 1, by omega, by go_num, HO', HB'⟩, by (simp [intOf]) <;> omega⟩
    · have e0 : k = n + 1 := by omega
      have hkb : decide ((k : Int) ≤ (n : Int)) = false := decide_eq_false (by omega)
      have hkb2 : decide (k ≤ n) = false := decide_eq_false (by omega)
      have HO : Hid (OwnInts wr w.heap.size u7 (autoL l (n + 1))) := by rw [← e0]; exact ho.out
      clear ho e0
      go_wp2_with fail
      go_ret2
      rw [HR.out]
      exact ⟨_, rfl, HO.out, hb.out⟩

theorem pow_fit {t : Nat} (h : t ≤ 31) : wrap64 (2 ^ t) = 2 ^ t ∧ (1 : Int) ≤ 2 ^ t ∧ (2 : Int) ^ t ≤ 4611686018427387904 := by
  have h1 : (1 : Int) ≤ 2 ^ t := Int.pow_pos (by decide)
  have h2 : (2 : Nat) ^ t ≤ 2 ^ 31 := Nat.pow_le_pow_right (by decide) h
  have h3 : (2 : Int) ^ t = ((2 ^ t : Nat) : Int) := by simp
  refine ⟨Go.IntWalk.wrap64_in _ ?_, h1, ?_⟩
  · rw [h3]; omega
  · rw [h3]; omega
theorem scaleL_next {l : List Int} {s k : Nat} {x : Int} (h : l[k]? = some x) : (scaleL l s).take (k + 1) = (scaleL l s).take k ++ [x / 2 ^ s] := take_next _ _ _ (scaleL_get h)

set_option maxRecDepth 100000 in
set_option maxHeartbeats 4000000 in
theorem rscaled_any (w : World) (a : Option Addr) (cap : Nat) (l : List Int) (s : Nat) (h : IntsAt w a l) (hl : l.length ≤ 1000000) (hs : isR l → IsShift (l.getD 0 0) s) (R : List Int × Int) (hR : R = scOut l s) :
    Calls Try.prog 71 #[.slice a l.length cap] w fun e w' => Gave w w' R e := by
  obtain ⟨i0, hi, hz0, hz1, hz2⟩ := info_parts Try.info3
  unfold scOut at hR
  have H : Hid (IntsAt w a l) := h
  clear h
  by_cases h0 : l.length = 0
  · rw [if_neg (fun h => by have := h.1; omega)] at hR
    have HR := hid_of hR
    have hb0 : ((l.length : Int) == 0) = true := beq_iff_eq.2 (by omega)
    clear hR hs
    go_enter Try.func71, Try.ntmps71
    go_wp2_with fail
    go_ret2
    exact Gave.none HR.out (Below.refl _ _)
  have hb0 : ((l.length : Int) == 0) = false := beq_eq_false_iff_ne.2 (by omega)
  have h0' : 0 < l.length := by omega
  clear h0
  obtain ⟨x0, hx0⟩ : ∃ x, l[0]? = some x := ⟨l[0], by simp [h0']⟩
  obtain ⟨b0, o0, rfl, hc0⟩ := H.out 0 x0 hx0
  rw [Nat.add_zero] at hc0
  by_cases hx : x0 < 0
  · rw [if_neg (fun h => by have := h.2.1; rw [getD_of hx0] at this; omega)] at hR
    have HR := hid_of hR
    clear hR hs hx0
    go_enter Try.func71, Try.ntmps71
    go_wp2_with fail
    go_ret2
    exact Gave.none HR.out (Below.refl _ _)
  have HS : Hid (isR l → IsShift x0 s) := by intro h1; have := hs h1; rw [getD_of hx0] at this; exact this
  have HR : Hid (R = if isR l then (scaleL l s, (s : Int)) else ([], 0)) := hR
  have HX0 : Hid (allB l → isR l) := fun h1 => ⟨h0', by rw [getD_of hx0]; omega, h1⟩
  have HXM : Hid (allB l → isB x0) := fun h1 => h1 x0 (List.mem_of_getElem? hx0)
  clear hs hR hx0
  go_enter Try.func71, Try.ntmps71
  go_wp2_with fail
  go_loopw [19] (fun i wr => ∃ k : Nat, k ≤ l.length ∧ i = .int .i64 k ∧ Hid (allB (l.take k)) ∧ w = wr) (fun i _ => l.length - (intOf i).toNat)
  case atStart => exact ⟨0, Nat.zero_le _, rfl, fun x hx => by simp at hx, rfl⟩
  case round =>
    obtain ⟨k, hk, rfl, hall, rfl⟩ := hrel
    by_cases hkn : k < l.length
    · obtain ⟨x, hx1⟩ : ∃ x, l[k]? = some x := ⟨l[k], by simp [hkn]⟩
      have hc : w.cell? ⟨b0, o0 + k, none⟩ = some (.int .i64 x) := by
        obtain ⟨b2, o2, e2, hc2⟩ := H.out k x hx1
        cases e2
        exact hc2
      have HX : Hid (l[k]? = some x) := hx1
      clear hx1
      have hbad : ¬ isB x → R = ([], 0) := fun hn => by
        rw [HR.out]
        exact if_neg (fun ha => hn (ha.2.2 x (List.mem_of_getElem? HX.out)))
      by_cases hlo : x < -1152921504606846976
      · have HR0 := hid_of (hbad (by unfold isB; omega))
        clear hbad
        go_wp2_with fail
        go_ret2
        exact Gave.none HR0.out (Below.refl _ _)
      · by_cases hhi : 1152921504606846976 < x
        · have HR0 := hid_of (hbad (by unfold isB; omega))
          clear hbad
          go_wp2_with fail
          go_ret2
          exact Gave.none HR0.out (Below.refl _ _)
        · clear hbad
          go_wp2_with fail
          refine ⟨⟨k + 1, by omega, by go_num, ?_, by trivial⟩, by (simp [intOf]) <;> omega⟩
          show allB _
          rw [take_next l k x HX.out]
          exact hall.out.snoc (by unfold isB; omega)
    · have e : k = l.length := by omega
      subst e
      have hB : allB l := by
        have := hall.out
        rw [List.take_length] at this
        exact this
      have hS := HS.out (HX0.out hB)
      obtain ⟨hx1, hx2⟩ := HXM.out hB
      have hs31 : s ≤ 31 := shift_le hx2 hS
      have HSS := hid_of hS
      have HBB := hid_of hB
      have HRR : Hid (R = (scaleL l s, (s : Int))) := by show _ = _; rw [HR.out, if_pos (HX0.out hB)]
      obtain ⟨S, hSS⟩ : ∃ S, S = scaleL l s := ⟨_, rfl⟩
      have HSL : Hid (S.length = l.length) := by show _ = _; rw [hSS]; simp
      have HSN : Hid (∀ (k : Nat) (x : Int), l[k]? = some x → S.take (k + 1) = S.take k ++ [x / 2 ^ s]) := by intro k x h; rw [hSS]; exact scaleL_next h
      rw [← hSS] at HRR
      clear hS hB hall hk hkn HS HX0 HXM HR hSS
      go_wp2_with fail
      go_loopw [5] (fun i wr => ∃ t : Nat, t ≤ s ∧ i = .int .i64 (t : Int) ∧ w = wr) (fun i _ => s - (intOf i).toNat)
      case atStart => exact ⟨0, Nat.zero_le _, rfl, rfl⟩
      case round =>
        obtain ⟨t, ht, rfl, rfl⟩ := hrel
        obtain ⟨hp1, hp2, hp3⟩ := pow_fit (t := t) (by omega)
        obtain ⟨q, hq⟩ : ∃ q, x0 / 2 ^ t = q := ⟨_, rfl⟩
        have HQ := hid_of hq
        by_cases hts : t < s
        · have hbig : 1073741824 ≤ q := by have := HSS.out.2 t hts; omega
          clear hq
          go_wp2_with (go_at_call 72; refine (rdown2_any _ _ _ q (by omega) (by omega) hp2 hp3 HQ.out).mono ?_; rintro e w1 ⟨rfl, rfl⟩)
          exact ⟨⟨t + 1, by omega, by go_num, by trivial⟩, by (simp [intOf]) <;> omega⟩
        · have e : t = s := by omega
          subst e
          have hbig : q < 1073741824 := by have := HSS.out.1; omega
          clear hq
          go_wp2_with (go_at_call 72; refine (rdown2_any _ _ _ q (by omega) (by omega) hp2 hp3 HQ.out).mono ?_; rintro e w1 ⟨rfl, rfl⟩)
          clear HQ hbig
          go_loopw [6, 47] (fun v i wr => ∃ k : Nat, k ≤ l.length ∧ i = .int .i64 (k : Int) ∧ Hid (OwnInts wr w.heap.size v (S.take k)) ∧ Hid (Below w.heap.size w wr)) (fun _ i _ => l.length - (intOf i).toNat)
          case atStart => exact ⟨0, Nat.zero_le _, rfl, OwnInts.nil _ _, Below.refl _ _⟩
          case round =>
            obtain ⟨k, hk, rfl, ho, hb⟩ := hrel
            by_cases hkN : k < l.length
            · obtain ⟨x, hx1⟩ : ∃ x, l[k]? = some x := ⟨l[k], by simp [hkN]⟩
              have hc1 : wr.cell? ⟨b0, o0 + k, none⟩ = some (.int .i64 x) := by
                obtain ⟨b2, o2, e2, hc2⟩ := H.out.mono hb.out k x hx1
                cases e2
                exact hc2
              obtain ⟨hxb1, hxb2⟩ := HBB.out x (List.mem_of_getElem? hx1)
              obtain ⟨q, hq⟩ : ∃ q, x / 2 ^ t = q := ⟨_, rfl⟩
              have HQ := hid_of hq
              have HN := hid_of (HSN.out k x hx1)
              rw [hq] at HN
              have hok : (S.take k).length ≤ 1000000 := by rw [List.length_take, HSL.out]; omega
              have hsz : w.heap.size ≤ wr.heap.size := hb.out.size
              clear hx1 hq
              go_wp2_with first
                | (go_at_call 72; refine (rdown2_any _ _ _ q (by omega) (by omega) hp2 hp3 HQ.out).mono ?_; rintro e w1 ⟨rfl, rfl⟩)
                | (at_builtin; go_must (refine wpList_append_int wr rfl (.tmp 50) (.tmp 59) 22 rfl w.heap.size i0 Try.underlying22 hi hz0 hz1 hz2 u6 (S.take k) (by rfl) ho.out q (by rfl) hok hsz ?_))
              intro v' w' h1 h2
              have HO' : Hid (OwnInts w' w.heap.size v' (S.take (k + 1))) := by rw [HN.out]; exact h1
              have HB' : Hid (Below w.heap.size w w') := hb.out.trans h2.out
              clear h1 h2
              go_wp2_with fail
              exact ⟨⟨k + 1, by omega, by go_num, HO', HB'⟩, by (simp [intOf]) <;> omega⟩
            · have e0 : k = l.length := by omega
              have HO : Hid (OwnInts wr w.heap.size u6 S) := by
                have h1 := ho.out
                rw [List.take_of_length_le (by rw [HSL.out]; omega)] at h1
                exact h1
              subst e0
              clear ho
              go_wp2_with fail
              go_ret2
              rw [HRR.out]
              exact ⟨_, rfl, HO.out, hb.out⟩

end Go.Proofs.Ythkfaackkcdcoaa
