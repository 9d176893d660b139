/- The document's own Decode. -/
import Derived.Test.YtlonnoapbfjomabGreatFrm6
namespace Go.Proofs.YtlonnoapbfjomabGreat
set_option linter.unusedVariables false
set_option linter.unusedSimpArgs false
open Go.RowKit Dg

theorem left_zero (l : List Nat) : left l 0 = unpack l := by simp [left]
def outOf (o : Option (List Int)) : List Int × Int := match o with | none => ([], 2) | some x => (x, 0)
theorem decOut_of (l : List Nat) : decOut 2 l = outOf (decD (unpack l)) := by unfold decOut outOf; rfl
/-- All that is behind the samples that a frame begins with. -/
def finT (K n : Nat) (q : List Int × List Bool) : Option (List Int) := (bodyT K n q.1 q.2).bind fun y => if noOnes y.2 = true then some y.1 else none
def badHead (K n : Nat) : Prop := 18 < K ∨ n < 1 ∨ 64 < n ∨ n < ordOf K n ∨ (6 < K ∧ n ≤ ordOf K n)
theorem decD_at {l : List Nat} {K n : Nat} (h1 : takeD (left l 0) 8 = some (K, left l 8)) (h2 : takeD (left l 8) 8 = some (n, left l 16)) (hg : ¬ badHead K n) : decD (unpack l) = (sampsT (ordOf K n) (left l 16)).bind (finT K n) := by
  rw [← left_zero]
  unfold decD
  rw [h1]
  simp only [Option.bind_some]
  rw [h2]
  simp only [Option.bind_some]
  unfold badHead at hg
  rw [if_neg hg]
  rfl
theorem decD_badhead {l : List Nat} {K n : Nat} (h1 : takeD (left l 0) 8 = some (K, left l 8)) (h2 : takeD (left l 8) 8 = some (n, left l 16)) (hg : badHead K n) : decD (unpack l) = none := by
  rw [← left_zero]
  unfold decD
  rw [h1]
  simp only [Option.bind_some]
  rw [h2]
  simp only [Option.bind_some]
  unfold badHead at hg
  rw [if_pos hg]
theorem decD_short {l : List Nat} (h : takeD (left l 0) 8 = none ∨ ∃ K, takeD (left l 0) 8 = some (K, left l 8) ∧ takeD (left l 8) 8 = none) : decD (unpack l) = none := by
  rw [← left_zero]
  unfold decD
  rcases h with h | ⟨K, h1, h2⟩
  · rw [h]; rfl
  · rw [h1]
    simp only [Option.bind_some]
    rw [h2]
    rfl
theorem takeD_left {l : List Nat} {p n : Nat} (hn : n ≤ 62) (h : n ≤ (left l p).length) : ∃ z, z < 2 ^ n ∧ takeD (left l p) n = some (z, left l (p + n)) ∧ getOut (left l p) (n : Int) = (z, n, true) := by
  obtain ⟨e1, e2⟩ := takeD_some hn h
  exact ⟨_, num_small _ _, by rw [left_drop]; exact e1, e2⟩
theorem zagOf_small (z : Int) : -1099511627776 ≤ zagOf z ∧ zagOf z ≤ 1099511627776 := by
  unfold zagOf
  split
  · omega
  · split <;> omega
theorem ricesT_i64 (k : Nat) : ∀ (n : Nat) (ds : List Bool) (q : List Int × List Bool), ricesT k n ds = some q → (∀ x ∈ q.1, I64 x) ∧ q.1.length = n := by
  intro n
  induction n with
  | zero =>
    intro ds q h
    simp [ricesT] at h
    subst h
    exact ⟨fun x hx => by simp at hx, rfl⟩
  | succ n ih =>
    intro ds q h
    rw [ricesT] at h
    split at h
    · obtain ⟨q', h1, rfl⟩ := Option.map_eq_some_iff.1 h
      obtain ⟨g1, g2⟩ := ih _ _ h1
      refine ⟨fun x hx => ?_, by simp [g2]⟩
      rcases List.mem_cons.1 hx with rfl | hx
      · have := zagOf_small ((riceOut ds (k : Int)).1 : Nat)
        unfold I64
        omega
      · exact g1 x hx
    · cases h
theorem resT_i64 {n : Nat} {ds : List Bool} {q : List Int × List Bool} (h : resT n ds = some q) : (∀ x ∈ q.1, I64 x) ∧ q.1.length = n := by
  unfold resT at h
  obtain ⟨r, -, h2⟩ := Option.bind_eq_some_iff.1 h
  split at h2
  · cases h2
  · exact ricesT_i64 _ _ _ _ h2
theorem sampsT_len : ∀ (n : Nat) (ds : List Bool) (q : List Int × List Bool), sampsT n ds = some q → q.1.length = n := by
  intro n
  induction n with
  | zero => intro ds q h; simp [sampsT] at h; subst h; rfl
  | succ n ih =>
    intro ds q h
    rw [sampsT] at h
    obtain ⟨r, -, h2⟩ := Option.bind_eq_some_iff.1 h
    obtain ⟨q', h3, rfl⟩ := Option.map_eq_some_iff.1 h2
    simp [ih _ _ h3]
theorem finT_verb (n : Nat) (xs : List Int) (r : List Bool) : finT 1 n (xs, r) = if noOnes r = true then some xs else none := by
  unfold finT bodyT
  rw [if_neg (by decide), if_pos rfl]
  rfl
theorem finT_const (n : Nat) (xs : List Int) (r : List Bool) : finT 0 n (xs, r) = if noOnes r = true then some (List.replicate n (xs.getD 0 0)) else none := by
  unfold finT bodyT
  rw [if_pos rfl]
  rfl
theorem left_short (l : List Nat) (p : Nat) (h : l.length ≤ 1000000) : (left l p).length ≤ 4398046511104 := by rw [left_len]; omega

set_option maxRecDepth 100000 in
set_option maxHeartbeats 4000000 in
theorem rdec_short (w : World) (v : Value) (l : List Nat) (h : SlAt w v l) (hl : l.length ≤ 1000000) (hby : ∀ x ∈ l, x < 256) (g1 g2 : Nat × Nat × Bool) (hg1 : getOut (left l 0) 8 = g1) (hg2 : getOut (left l (0 + g1.2.1)) 8 = g2) (hbad : g1.2.2 = false ∨ (g1.2.2 = true ∧ g2.2.2 = false)) :
    Calls Tryz.prog 17 #[v] w fun e w' => Gave w w' ([], 2) e := by
  have HSL := hid_of h
  have HBY := hid_of hby
  clear h hby
  obtain ⟨k1, u1, ok1⟩ := g1
  obtain ⟨k2, u2, ok2⟩ := g2
  have HG1 := hid_of hg1
  have HG2 := hid_of hg2
  simp only at hbad
  clear hg1 hg2
  rcases hbad with rfl | ⟨rfl, rfl⟩
  all_goals
    go_enter Tryz.func17, Tryz.ntmps17
    go_wp2_with fail
    refine (of_any w v l HSL.out hl HBY.out).mono ?_
    rintro e w1 ⟨v1, rfl, h1, hb1⟩
    have HBT1 : Hid (BtAt w1 v1 (left l 0)) := by show BtAt _ _ _; rw [left_zero]; exact BtAt.of_owns h1
    have HB1 := hid_of hb1
    clear h1 hb1
    go_wp2_with fail
    refine (rget_all' w1 v1 l 0 8 HBT1.out _ HG1.out).mono ?_
    rintro e w2 ⟨v2, rfl, hb2, -, m2, rfl⟩
    have HBT2 := hid_of hb2
    clear hb2 HBT1
    go_wp2_with fail
    refine (rget_all' (w1.drewN m2) v2 l _ 8 HBT2.out _ HG2.out).mono ?_
    rintro e w3 ⟨v3, rfl, hb3, -, m3, rfl⟩
    have HBT3 : Hid (BtAt (w1.drewN (m2 + m3)) v3 (left l (0 + u1 + u2))) := hb3
    have HB3 : Hid (Below w.heap.size w (w1.drewN (m2 + m3))) := below_drewN HB1.out (m2 + m3)
    clear hb3 HBT2 HB1
    go_wp2_with fail
    go_ret2
    exact Gave.none rfl HB3.out

set_option maxRecDepth 100000 in
set_option maxHeartbeats 4000000 in
theorem rdec_bad (w : World) (v : Value) (l : List Nat) (h : SlAt w v l) (hl : l.length ≤ 1000000) (hby : ∀ x ∈ l, x < 256) (K n : Nat) (hg1 : getOut (left l 0) 8 = (K, 8, true)) (hg2 : getOut (left l (0 + 8)) 8 = (n, 8, true)) (hK : K < 256) (hn : n < 256) (hbad : badHead K n) :
    Calls Tryz.prog 17 #[v] w fun e w' => Gave w w' ([], 2) e := by
  have HSL := hid_of h
  have HBY := hid_of hby
  clear h hby
  have HG1 := hid_of hg1
  have HG2 := hid_of hg2
  clear hg1 hg2
  have hc : 18 < K ∨ (K ≤ 18 ∧ n < 1) ∨ (K ≤ 18 ∧ 1 ≤ n ∧ 64 < n) ∨ (K ≤ 18 ∧ 1 ≤ n ∧ n ≤ 64 ∧ (K == 0) = false ∧ (K == 1) = false ∧ K ≤ 6 ∧ 2 ≤ K ∧ n < K - 2) ∨ (K ≤ 18 ∧ 1 ≤ n ∧ n ≤ 64 ∧ (K == 0) = false ∧ (K == 1) = false ∧ 6 < K ∧ n ≤ K - 6) := by
    simp only [beq_eq_false_iff_ne]
    unfold badHead ordOf at hbad
    by_cases h0 : K = 0
    · simp [h0] at hbad ⊢; omega
    by_cases h1 : K = 1
    · simp [h1] at hbad ⊢; omega
    by_cases h6 : K ≤ 6
    · simp [h0, h1, h6] at hbad; omega
    · simp [h0, h1, h6] at hbad; omega
  clear hbad
  rcases hc with h1 | ⟨h1, h2⟩ | ⟨h1, h2, h3⟩ | ⟨h1, h2, h3, hb0, hb1, h4, h4', h5⟩ | ⟨h1, h2, h3, hb0, hb1, h4, h5⟩
  · go_enter Tryz.func17, Tryz.ntmps17
    go_wp2_with fail
    refine (of_any w v l HSL.out hl HBY.out).mono ?_
    rintro e w1 ⟨v1, rfl, h1, hb1⟩
    have HBT1 : Hid (BtAt w1 v1 (left l 0)) := by show BtAt _ _ _; rw [left_zero]; exact BtAt.of_owns h1
    have HB1 := hid_of hb1
    clear h1 hb1
    go_wp2_with fail
    refine (rget_all' w1 v1 l 0 8 HBT1.out _ HG1.out).mono ?_
    rintro e w2 ⟨v2, rfl, hb2, -, m2, rfl⟩
    have HBT2 := hid_of hb2
    clear hb2 HBT1
    go_wp2_with fail
    refine (rget_all' (w1.drewN m2) v2 l _ 8 HBT2.out _ HG2.out).mono ?_
    rintro e w3 ⟨v3, rfl, hb3, -, m3, rfl⟩
    have HBT3 : Hid (BtAt (w1.drewN (m2 + m3)) v3 (left l (0 + 8 + 8))) := hb3
    have HB3 : Hid (Below w.heap.size w (w1.drewN (m2 + m3))) := below_drewN HB1.out (m2 + m3)
    clear hb3 HBT2 HB1
    go_wp2_with fail
    go_ret2
    exact Gave.none rfl HB3.out
  · go_enter Tryz.func17, Tryz.ntmps17
    go_wp2_with fail
    refine (of_any w v l HSL.out hl HBY.out).mono ?_
    rintro e w1 ⟨v1, rfl, h1, hb1⟩
    have HBT1 : Hid (BtAt w1 v1 (left l 0)) := by show BtAt _ _ _; rw [left_zero]; exact BtAt.of_owns h1
    have HB1 := hid_of hb1
    clear h1 hb1
    go_wp2_with fail
    refine (rget_all' w1 v1 l 0 8 HBT1.out _ HG1.out).mono ?_
    rintro e w2 ⟨v2, rfl, hb2, -, m2, rfl⟩
    have HBT2 := hid_of hb2
    clear hb2 HBT1
    go_wp2_with fail
    refine (rget_all' (w1.drewN m2) v2 l _ 8 HBT2.out _ HG2.out).mono ?_
    rintro e w3 ⟨v3, rfl, hb3, -, m3, rfl⟩
    have HBT3 : Hid (BtAt (w1.drewN (m2 + m3)) v3 (left l (0 + 8 + 8))) := hb3
    have HB3 : Hid (Below w.heap.size w (w1.drewN (m2 + m3))) := below_drewN HB1.out (m2 + m3)
    clear hb3 HBT2 HB1
    go_wp2_with fail
    go_ret2
    exact Gave.none rfl HB3.out
  · go_enter Tryz.func17, Tryz.ntmps17
    go_wp2_with fail
    refine (of_any w v l HSL.out hl HBY.out).mono ?_
    rintro e w1 ⟨v1, rfl, h1, hb1⟩
    have HBT1 : Hid (BtAt w1 v1 (left l 0)) := by show BtAt _ _ _; rw [left_zero]; exact BtAt.of_owns h1
    have HB1 := hid_of hb1
    clear h1 hb1
    go_wp2_with fail
    refine (rget_all' w1 v1 l 0 8 HBT1.out _ HG1.out).mono ?_
    rintro e w2 ⟨v2, rfl, hb2, -, m2, rfl⟩
    have HBT2 := hid_of hb2
    clear hb2 HBT1
    go_wp2_with fail
    refine (rget_all' (w1.drewN m2) v2 l _ 8 HBT2.out _ HG2.out).mono ?_
    rintro e w3 ⟨v3, rfl, hb3, -, m3, rfl⟩
    have HBT3 : Hid (BtAt (w1.drewN (m2 + m3)) v3 (left l (0 + 8 + 8))) := hb3
    have HB3 : Hid (Below w.heap.size w (w1.drewN (m2 + m3))) := below_drewN HB1.out (m2 + m3)
    clear hb3 HBT2 HB1
    go_wp2_with fail
    go_ret2
    exact Gave.none rfl HB3.out
  · obtain ⟨o, ho⟩ : ∃ o : Nat, (K : Int) - 2 = (o : Int) := ⟨K - 2, by omega⟩
    have hno : n < o := by omega
    clear h5
    go_enter Tryz.func17, Tryz.ntmps17
    go_wp2_with fail
    refine (of_any w v l HSL.out hl HBY.out).mono ?_
    rintro e w1 ⟨v1, rfl, h1, hb1⟩
    have HBT1 : Hid (BtAt w1 v1 (left l 0)) := by show BtAt _ _ _; rw [left_zero]; exact BtAt.of_owns h1
    have HB1 := hid_of hb1
    clear h1 hb1
    go_wp2_with fail
    refine (rget_all' w1 v1 l 0 8 HBT1.out _ HG1.out).mono ?_
    rintro e w2 ⟨v2, rfl, hb2, -, m2, rfl⟩
    have HBT2 := hid_of hb2
    clear hb2 HBT1
    go_wp2_with fail
    refine (rget_all' (w1.drewN m2) v2 l _ 8 HBT2.out _ HG2.out).mono ?_
    rintro e w3 ⟨v3, rfl, hb3, -, m3, rfl⟩
    have HBT3 : Hid (BtAt (w1.drewN (m2 + m3)) v3 (left l (0 + 8 + 8))) := hb3
    have HB3 : Hid (Below w.heap.size w (w1.drewN (m2 + m3))) := below_drewN HB1.out (m2 + m3)
    clear hb3 HBT2 HB1
    go_wp2_with fail
    all_goals (go_ret2; exact Gave.none rfl HB3.out)
  · obtain ⟨o, ho⟩ : ∃ o : Nat, (K : Int) - 6 = (o : Int) := ⟨K - 6, by omega⟩
    have hno : n ≤ o := by omega
    clear h5
    go_enter Tryz.func17, Tryz.ntmps17
    go_wp2_with fail
    refine (of_any w v l HSL.out hl HBY.out).mono ?_
    rintro e w1 ⟨v1, rfl, h1, hb1⟩
    have HBT1 : Hid (BtAt w1 v1 (left l 0)) := by show BtAt _ _ _; rw [left_zero]; exact BtAt.of_owns h1
    have HB1 := hid_of hb1
    clear h1 hb1
    go_wp2_with fail
    refine (rget_all' w1 v1 l 0 8 HBT1.out _ HG1.out).mono ?_
    rintro e w2 ⟨v2, rfl, hb2, -, m2, rfl⟩
    have HBT2 := hid_of hb2
    clear hb2 HBT1
    go_wp2_with fail
    refine (rget_all' (w1.drewN m2) v2 l _ 8 HBT2.out _ HG2.out).mono ?_
    rintro e w3 ⟨v3, rfl, hb3, -, m3, rfl⟩
    have HBT3 : Hid (BtAt (w1.drewN (m2 + m3)) v3 (left l (0 + 8 + 8))) := hb3
    have HB3 : Hid (Below w.heap.size w (w1.drewN (m2 + m3))) := below_drewN HB1.out (m2 + m3)
    clear hb3 HBT2 HB1
    go_wp2_with fail
    all_goals (go_ret2; exact Gave.none rfl HB3.out)

end Go.Proofs.YtlonnoapbfjomabGreat
