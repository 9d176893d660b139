/- The texts Frm7, Dec2, Dec3, FrmP, FrmMore, one behind the other. -/
import Derived.Test.YtejgkgnocgplbabGreatPart08
import Derived.Test.YtejgkgnocgplbabGreatPart06
import Derived.Test.YtejgkgnocgplbabGreatPart03
import Derived.Test.YtejgkgnocgplbabGreatPart04
import Derived.Test.YtejgkgnocgplbabGreatPart07

/- The document's own Decode. -/
namespace Go.Proofs.YtejgkgnocgplbabGreat
set_option linter.unusedVariables false
set_option linter.unusedSimpArgs false
open Go.RowKit Dg

theorem left_zero (l : List Nat) : left l 0 = unpack l := by simp [left]
def outOf (o : Option (List Int)) : List Int × Int := match o with | none => ([], 2) | some x => (x, 0)
theorem decOut_of (l : List Nat) : decOut 2 l = outOf (decD (unpack l)) := by unfold decOut outOf; rfl
/-- All that is behind the samples that a frame begins with. -/
def finT (K n : Nat) (q : List Int × List Bool) : Option (List Int) := (bodyT K n q.1 q.2).bind fun y => if noOnes y.2 = true then some y.1 else none
def badHead (K n : Nat) : Prop := 18 < K ∨ n < 1 ∨ 64 < n ∨ n < ordOf K n ∨ (6 < K ∧ n ≤ ordOf K n)
theorem decD_at {l : List Nat} {K n : Nat} (h1 : takeD (left l 0) 8 = some (K, left l 8)) (h2 : takeD (left l 8) 8 = some (n, left l 16)) (hg : ¬ badHead K n) : decD (unpack l) = (sampsT (ordOf K n) (left l 16)).bind (finT K n) := by
  rw [← left_zero]
  unfold decD
  rw [h1]
  simp only [Option.bind_some]
  rw [h2]
  simp only [Option.bind_some]
  unfold badHead at hg
  rw [if_neg hg]
  rfl
theorem decD_badhead {l : List Nat} {K n : Nat} (h1 : takeD (left l 0) 8 = some (K, left l 8)) (h2 : takeD (left l 8) 8 = some (n, left l 16)) (hg : badHead K n) : decD (unpack l) = none := by
  rw [← left_zero]
  unfold decD
  rw [h1]
  simp only [Option.bind_some]
  rw [h2]
  simp only [Option.bind_some]
  unfold badHead at hg
  rw [if_pos hg]
theorem decD_short {l : List Nat} (h : takeD (left l 0) 8 = none ∨ ∃ K, takeD (left l 0) 8 = some (K, left l 8) ∧ takeD (left l 8) 8 = none) : decD (unpack l) = none := by
  rw [← left_zero]
  unfold decD
  rcases h with h | ⟨K, h1, h2⟩
  · rw [h]; rfl
  · rw [h1]
    simp only [Option.bind_some]
    rw [h2]
    rfl
theorem takeD_left {l : List Nat} {p n : Nat} (hn : n ≤ 62) (h : n ≤ (left l p).length) : ∃ z, z < 2 ^ n ∧ takeD (left l p) n = some (z, left l (p + n)) ∧ getOut (left l p) (n : Int) = (z, n, true) := by
  obtain ⟨e1, e2⟩ := takeD_some hn h
  exact ⟨_, num_small _ _, by rw [left_drop]; exact e1, e2⟩
theorem zagOf_small (z : Int) : -1099511627776 ≤ zagOf z ∧ zagOf z ≤ 1099511627776 := by
  unfold zagOf
  split
  · omega
  · split <;> omega
theorem ricesT_i64 (k : Nat) : ∀ (n : Nat) (ds : List Bool) (q : List Int × List Bool), ricesT k n ds = some q → (∀ x ∈ q.1, I64 x) ∧ q.1.length = n := by
  intro n
  induction n with
  | zero =>
    intro ds q h
    simp [ricesT] at h
    subst h
    exact ⟨fun x hx => by simp at hx, rfl⟩
  | succ n ih =>
    intro ds q h
    rw [ricesT] at h
    split at h
    · obtain ⟨q', h1, rfl⟩ := Option.map_eq_some_iff.1 h
      obtain ⟨g1, g2⟩ := ih _ _ h1
      refine ⟨fun x hx => ?_, by simp [g2]⟩
      rcases List.mem_cons.1 hx with rfl | hx
      · have := zagOf_small ((riceOut ds (k : Int)).1 : Nat)
        unfold I64
        omega
      · exact g1 x hx
    · cases h
theorem resT_i64 {n : Nat} {ds : List Bool} {q : List Int × List Bool} (h : resT n ds = some q) : (∀ x ∈ q.1, I64 x) ∧ q.1.length = n := by
  unfold resT at h
  obtain ⟨r, -, h2⟩ := Option.bind_eq_some_iff.1 h
  split at h2
  · cases h2
  · exact ricesT_i64 _ _ _ _ h2
theorem sampsT_len : ∀ (n : Nat) (ds : List Bool) (q : List Int × List Bool), sampsT n ds = some q → q.1.length = n := by
  intro n
  induction n with
  | zero => intro ds q h; simp [sampsT] at h; subst h; rfl
  | succ n ih =>
    intro ds q h
    rw [sampsT] at h
    obtain ⟨r, -, h2⟩ := Option.bind_eq_some_iff.1 h
    obtain ⟨q', h3, rfl⟩ := Option.map_eq_some_iff.1 h2
    simp [ih _ _ h3]
theorem finT_verb (n : Nat) (xs : List Int) (r : List Bool) : finT 1 n (xs, r) = if noOnes r = true then some xs else none := by
  unfold finT bodyT
  rw [if_neg (by decide), if_pos rfl]
  rfl
theorem finT_const (n : Nat) (xs : List Int) (r : List Bool) : finT 0 n (xs, r) = if noOnes r = true then some (List.replicate n (xs.getD 0 0)) else none := by
  unfold finT bodyT
  rw [if_pos rfl]
  rfl
theorem left_short (l : List Nat) (p : Nat) (h : l.length ≤ 1000000) : (left l p).length ≤ 4398046511104 := by rw [left_len]; omega

end Go.Proofs.YtejgkgnocgplbabGreat

/- frame: a constant, the predictors' samples out of a reader. -/
namespace Go.Proofs.YtejgkgnocgplbabGreat
set_option linter.unusedVariables false
set_option linter.unusedSimpArgs false
open Go.RowKit Dg

theorem own_ns {w : World} {base cap : Nat} {a : Option Addr} {l : List Int} (h : OwnInts w base (.slice a l.length cap) l) : Ns w a cap l := by
  obtain ⟨a', c', e, hn, -, -⟩ := h.ns
  cases e
  exact hn
theorem coefsT_len (n : Nat) (ds : List Bool) (q : List Int × List Bool) (h : coefsT n ds = some q) : q.1.length = n := by
  induction n generalizing ds q with
  | zero => simp [coefsT] at h; subst h; rfl
  | succ n ih =>
    rw [coefsT] at h
    cases h1 : takeD ds 16 with
    | none => rw [h1] at h; cases h
    | some r =>
      rw [h1] at h
      simp only [Option.bind_some] at h
      cases h2 : coefsT n r.2 with
      | none => rw [h2] at h; cases h
      | some q' =>
        rw [h2] at h
        cases h
        simp [ih _ _ h2]

set_option maxRecDepth 100000 in
set_option maxHeartbeats 4000000 in
theorem pconstT_any (w : World) (b : Nat) (rv : Value) (l : List Nat) (p0 n : Nat) (h : RdAt w b rv l p0) (hlt : ∀ i, rv.ownBlock = some i → i < w.heap.size) (hn1 : 1 ≤ n) (hn : n ≤ 1000) (T : Option (List Int × List Bool)) (hT : T = (sampsT 1 (left l p0)).map fun q => (List.replicate n (q.1.getD 0 0), q.2)) :
    Calls Tryz.prog 36 #[.pointer (some ⟨b, 0, none⟩), .int .i64 (n : Int)] w fun e w' => TakeR w w' b rv l T e := by
  obtain ⟨i0, hi, hz0, hz1, hz2⟩ := info_parts Tryz.info3
  have HR := hid_of h
  have HLT := hid_of hlt
  have HBL := hid_of h.lt
  obtain ⟨S, hS⟩ : ∃ S, S = sampsT 1 (left l p0) := ⟨_, rfl⟩
  have HS := hid_of hS
  rw [← hS] at hT
  have HT := hid_of hT
  clear h hT hlt
  go_enter Tryz.func36, Tryz.ntmps36
  go_wp2_with fail
  refine (psamps_any w b rv l p0 1 HR.out HLT.out (by decide) _ rfl S HS.out).mono ?_
  intro e w1 hg
  cases S with
  | none =>
    obtain ⟨x, rfl, hk1⟩ := hg
    have HK1 := hid_of hk1
    have HN : Hid (T = none) := HT.out
    clear hk1 hS
    go_wp2_with fail
    go_ret2
    rw [HN.out]
    exact ⟨_, rfl, HK1.out⟩
  | some q =>
    have hq1 := sampsT_len _ _ _ hS.symm
    obtain ⟨qs, qr⟩ := q
    simp only at hq1
    obtain ⟨x0, rfl⟩ : ∃ x, qs = [x] := List.length_eq_one_iff.1 hq1
    obtain ⟨a1, c1, p1, rfl, ho1, hr1, hqr, hk1⟩ := hg
    simp only at ho1 hqr
    have HN : Hid (T = some (List.replicate n x0, left l p1)) := by show _ = _; rw [HT.out, hqr]; rfl
    have HO1 := hid_of ho1.at
    have HR1 := hid_of hr1
    have HK1 := hid_of hk1
    have hs1 : w.heap.size ≤ w1.heap.size := hk1.size
    clear ho1 hr1 hk1 hqr hq1 hS HS HT
    obtain ⟨TT, hTT⟩ : ∃ TT, TT = List.replicate n x0 := ⟨_, rfl⟩
    have HTL : Hid (TT.length = n) := by show _ = _; rw [hTT]; simp
    have HTG : Hid (∀ j, j < n → TT[j]? = some x0) := fun j hj => by rw [hTT]; simp [hj]
    rw [← hTT] at HN
    clear hTT
    go_wp2_with (at_make; go_must (refine wpList_make_full _ rfl _ _ 22 rfl w1.heap.size 3 i0 (.int .i64 0) 1 Tryz.underlying22 hi hz0 hz1 _ _ _ _ n rfl rfl rfl rfl (by rw [hz2]; omega) (by unfold maxLen; omega) (Nat.le_refl _) ?_))
    intro w2 hown hgr
    have HB2 : Hid (Below w1.heap.size w1 w2) := (Below.refl _ _).grown hgr (Nat.le_refl _) (fun k hk => by cases hk)
    have HO2 : Hid (OwnInts w2 w1.heap.size (.slice (some ⟨w1.heap.size, 0, none⟩) n n) (filled TT n 0)) := by
      show World.ownsRow _ _ _ _ _ _ _
      rw [filled_zero]
      have e := madeI n
      rw [Nat.mul_one] at e
      rw [← e, List.length_replicate]; exact hown
    obtain ⟨g, hg⟩ : ∃ g, g = w1.heap.size := ⟨_, rfl⟩
    have HGE : Hid (g = w1.heap.size) := hg
    rw [← hg] at HO2 ⊢
    clear hown hgr hg
    go_wp2_with fail
    go_loopw [21] (fun i wr => ∃ j : Nat, j ≤ n ∧ i = .int .i64 (j : Int) ∧ Hid (OwnInts wr g (.slice (some ⟨g, 0, none⟩) n n) (filled TT n j)) ∧ Hid (Below w1.heap.size w1 wr)) (fun i _ => n - (intOf i).toNat)
    case atStart => exact ⟨0, Nat.zero_le _, rfl, HO2.out, HB2.out⟩
    case round =>
      obtain ⟨j, hj, rfl, ho, hb⟩ := hrel
      by_cases hjn : j < n
      · obtain ⟨b1, o1, rfl, hc1⟩ := HO1.out.mono hb.out 0 x0 rfl
        rw [Nat.add_zero] at hc1
        obtain ⟨hrc, hrf⟩ := owni_cell ho.out (filled_get HTL.out hjn)
        have HTJ := hid_of (HTG.out j hjn)
        go_wp2_with fail
        refine ⟨⟨j + 1, by omega, by go_num, ?_, hb.out.setCell (by show _ ≤ g; rw [HGE.out]; exact Nat.le_refl _) _⟩, by (simp [intOf]) <;> omega⟩
        show OwnInts _ _ _ _
        rw [← filled_set HTL.out HTJ.out]
        exact ho.out.set j _ hjn
      · have e : j = n := by omega
        have HF : Hid (OwnInts wr w.heap.size (.slice (some ⟨g, 0, none⟩) TT.length n) TT) := by
          have h1 := ho.out
          rw [e, filled_end HTL.out] at h1
          show OwnInts _ _ _ _
          rw [HTL.out]
          exact h1.base (by rw [HGE.out]; exact hs1)
        have HRR : Hid (RdAt wr b rv l p1) := HR1.out.below hb.out
        have HKK : Hid (Kept (fun i => i = b) w wr) := HK1.out.trans (Kept.of_below hb.out)
        subst e
        clear ho
        go_wp2_with fail
        go_ret2
        rw [HN.out]
        exact ⟨some ⟨g, 0, none⟩, j, p1, by show _ = Ending.returned (.tuple #[.slice _ TT.length _, _]); rw [HTL.out]; rfl, HF.out, HRR.out, rfl, HKK.out⟩

set_option maxRecDepth 100000 in
set_option maxHeartbeats 4000000 in
theorem pfixT_any (w : World) (b : Nat) (rv : Value) (l : List Nat) (p0 n o : Nat) (h : RdAt w b rv l p0) (hlt : ∀ i, rv.ownBlock = some i → i < w.heap.size) (hn : n ≤ 64) (ho4 : o ≤ 4) (T : Option (List Int × List Bool))
    (hT : T = if n < o then none else (sampsT o (left l p0)).bind fun q => (resT (n - o) q.2).bind fun r => if (restOut q.1 r.1).2 = 0 then some ((restOut q.1 r.1).1, r.2) else none) :
    Calls Tryz.prog 38 #[.pointer (some ⟨b, 0, none⟩), .int .i64 (n : Int), .int .i64 (o : Int)] w fun e w' => TakeR w w' b rv l T e := by
  have HR := hid_of h
  have HLT := hid_of hlt
  have HBL := hid_of h.lt
  by_cases hno : n < o
  · rw [if_pos hno] at hT
    have HN := hid_of hT
    clear h hlt hT
    go_enter Tryz.func38, Tryz.ntmps38
    go_wp2_with fail
    go_ret2
    rw [HN.out]
    exact ⟨_, rfl, Kept.refl _ _⟩
  rw [if_neg hno] at hT
  obtain ⟨S, hS⟩ : ∃ S, S = sampsT o (left l p0) := ⟨_, rfl⟩
  have HS := hid_of hS
  rw [← hS] at hT
  obtain ⟨m, hm⟩ : ∃ m, m = n - o := ⟨_, rfl⟩
  have hmI : (n : Int) - (o : Int) = (m : Int) := by omega
  rw [← hm] at hT
  have HT := hid_of hT
  have hm64 : m ≤ 64 := by omega
  clear h hT hlt hm
  go_enter Tryz.func38, Tryz.ntmps38
  go_wp2_with fail
  refine (psamps_any w b rv l p0 o HR.out HLT.out (by omega) _ rfl S HS.out).mono ?_
  intro e w1 hg
  cases S with
  | none =>
    obtain ⟨x, rfl, hk1⟩ := hg
    have HK1 := hid_of hk1
    have HN : Hid (T = none) := HT.out
    clear hk1 hS
    go_wp2_with fail
    go_ret2
    rw [HN.out]
    exact ⟨_, rfl, HK1.out⟩
  | some q =>
    have hq1 := sampsT_len _ _ _ hS.symm
    obtain ⟨warm, qr⟩ := q
    simp only at hq1
    obtain ⟨a1, c1, p1, rfl, ho1, hr1, hqr, hk1⟩ := hg
    simp only at ho1 hqr
    have HO1 := hid_of ho1
    have HR1 := hid_of hr1
    have HK1 := hid_of hk1
    have hs1 : w.heap.size ≤ w1.heap.size := hk1.size
    have HLT1 : Hid (∀ i, rv.ownBlock = some i → i < w1.heap.size) := fun i hi => Nat.lt_of_lt_of_le (HLT.out i hi) hs1
    have hwl : warm.length ≤ 4 := by omega
    obtain ⟨Q, hQ⟩ : ∃ Q, Q = resT m (left l p1) := ⟨_, rfl⟩
    have HQ := hid_of hQ
    have HT2 : Hid (T = Q.bind fun r => if (restOut warm r.1).2 = 0 then some ((restOut warm r.1).1, r.2) else none) := by
      show _ = _
      rw [HT.out, hqr, hQ]
      rfl
    clear ho1 hr1 hk1 hqr hq1 hS HS HT
    go_wp2_with fail
    refine (presT_any w1 b rv l p1 m HR1.out HLT1.out (by omega) Q HQ.out).mono ?_
    intro e w2 hg
    cases Q with
    | none =>
      obtain ⟨x, rfl, hk2⟩ := hg
      have HK2 : Hid (Kept (fun i => i = b) w w2) := HK1.out.trans hk2
      have HN : Hid (T = none) := HT2.out
      clear hk2 hQ
      go_wp2_with fail
      go_ret2
      rw [HN.out]
      exact ⟨_, rfl, HK2.out⟩
    | some r =>
      obtain ⟨hrI, hrL⟩ := resT_i64 hQ.symm
      obtain ⟨res, rr⟩ := r
      simp only at hrI hrL
      obtain ⟨a2, c2, p2, rfl, ho2, hr2, hrr, hk2⟩ := hg
      simp only at ho2 hrr
      have HW2 : Hid (Ns w2 a1 c1 warm) := own_ns (own_keep HO1.out hk2 HBL.out)
      have HRS2 : Hid (IntsAt w2 a2 res) := ho2.at
      have HR2 := hid_of hr2
      have HK2 : Hid (Kept (fun i => i = b) w w2) := HK1.out.trans hk2
      have HI := hid_of hrI
      have hrl : res.length ≤ 100000 := by omega
      obtain ⟨⟨L, k⟩, hRO⟩ : ∃ R, R = restOut warm res := ⟨_, rfl⟩
      have HRO := hid_of hRO
      have HT3 : Hid (T = if k = 0 then some (L, left l p2) else none) := by
        show _ = _
        rw [HT2.out, hrr]
        simp only [Option.bind_some]
        rw [← hRO]
      clear ho2 hr2 hk2 hrr hrI hrL hQ HQ HT2 hRO
      go_wp2_with fail
      refine (frest_any w2 a1 a2 c1 c2 warm res HW2.out HRS2.out (by omega) hrl HI.out _ HRO.out).mono ?_
      rintro e w3 hg
      obtain ⟨a3, c3, rfl, ho3, -, hb3⟩ := hg.ok
      have HO3 : Hid (OwnInts w3 w.heap.size (.slice a3 L.length c3) L) := ho3.base HK2.out.size
      have HR3 : Hid (RdAt w3 b rv l p2) := HR2.out.below hb3
      have HK3 : Hid (Kept (fun i => i = b) w w3) := HK2.out.trans (Kept.of_below hb3)
      clear hg ho3 hb3
      by_cases hk0 : k = 0
      · subst hk0
        have HN : Hid (T = some (L, left l p2)) := by show _ = _; rw [HT3.out, if_pos rfl]
        go_wp2_with fail
        go_ret2
        rw [HN.out]
        exact ⟨a3, c3, p2, rfl, HO3.out, HR3.out, rfl, HK3.out⟩
      · have hkb : (k == 0) = false := beq_eq_false_iff_ne.2 hk0
        have HN : Hid (T = none) := by show _ = _; rw [HT3.out, if_neg hk0]
        go_wp2_with fail
        go_ret2
        rw [HN.out]
        exact ⟨_, rfl, HK3.out⟩

set_option maxRecDepth 100000 in
set_option maxHeartbeats 4000000 in
theorem plpcT_any (w : World) (b : Nat) (rv : Value) (l : List Nat) (p0 n o : Nat) (h : RdAt w b rv l p0) (hlt : ∀ i, rv.ownBlock = some i → i < w.heap.size) (hn : n ≤ 64) (ho1 : 1 ≤ o) (ho12 : o ≤ 12) (T : Option (List Int × List Bool))
    (hT : T = if n ≤ o then none else (sampsT o (left l p0)).bind fun q => (coefsT o q.2).bind fun c => (resT (n - o) c.2).bind fun r => if (lrestOut q.1 r.1 c.1).2 = 0 then some ((lrestOut q.1 r.1 c.1).1, r.2) else none) :
    Calls Tryz.prog 40 #[.pointer (some ⟨b, 0, none⟩), .int .i64 (n : Int), .int .i64 (o : Int)] w fun e w' => TakeR w w' b rv l T e := by
  have HR := hid_of h
  have HLT := hid_of hlt
  have HBL := hid_of h.lt
  by_cases hno : n ≤ o
  · rw [if_pos hno] at hT
    have HN := hid_of hT
    clear h hlt hT
    go_enter Tryz.func40, Tryz.ntmps40
    go_wp2_with fail
    go_ret2
    rw [HN.out]
    exact ⟨_, rfl, Kept.refl _ _⟩
  rw [if_neg hno] at hT
  obtain ⟨S, hS⟩ : ∃ S, S = sampsT o (left l p0) := ⟨_, rfl⟩
  have HS := hid_of hS
  rw [← hS] at hT
  obtain ⟨m, hm⟩ : ∃ m, m = n - o := ⟨_, rfl⟩
  have hmI : (n : Int) - (o : Int) = (m : Int) := by omega
  rw [← hm] at hT
  have HT := hid_of hT
  have hm64 : m ≤ 64 := by omega
  clear h hT hlt hm
  go_enter Tryz.func40, Tryz.ntmps40
  go_wp2_with fail
  refine (psamps_any w b rv l p0 o HR.out HLT.out (by omega) _ rfl S HS.out).mono ?_
  intro e w1 hg
  cases S with
  | none =>
    obtain ⟨x, rfl, hk1⟩ := hg
    have HK1 := hid_of hk1
    have HN : Hid (T = none) := HT.out
    clear hk1 hS
    go_wp2_with fail
    go_ret2
    rw [HN.out]
    exact ⟨_, rfl, HK1.out⟩
  | some q =>
    have hq1 := sampsT_len _ _ _ hS.symm
    obtain ⟨warm, qr⟩ := q
    simp only at hq1
    obtain ⟨a1, c1, p1, rfl, ho1', hr1, hqr, hk1⟩ := hg
    simp only at ho1' hqr
    have HO1 := hid_of ho1'
    have HR1 := hid_of hr1
    have HK1 := hid_of hk1
    have hs1 : w.heap.size ≤ w1.heap.size := hk1.size
    have HLT1 : Hid (∀ i, rv.ownBlock = some i → i < w1.heap.size) := fun i hi => Nat.lt_of_lt_of_le (HLT.out i hi) hs1
    have HBL1 : Hid (b < w1.heap.size) := Nat.lt_of_lt_of_le HBL.out hs1
    have hwl : warm.length ≤ 12 := by omega
    obtain ⟨C, hC⟩ : ∃ C, C = coefsT o (left l p1) := ⟨_, rfl⟩
    have HC : Hid (C = liftT 16 32768 o (left l p1)) := by show _ = _; rw [hC, liftT_coefs]
    have HT1 : Hid (T = C.bind fun c => (resT m c.2).bind fun r => if (lrestOut warm r.1 c.1).2 = 0 then some ((lrestOut warm r.1 c.1).1, r.2) else none) := by
      show _ = _
      rw [HT.out, hqr, hC]
      rfl
    clear ho1' hr1 hk1 hqr hq1 hS HS HT
    go_wp2_with fail
    refine (plift_any w1 b rv l p1 o 16 32768 _ HR1.out HLT1.out (by omega) (by decide) (by decide) (by decide) rfl C HC.out).mono ?_
    intro e w2 hg
    cases C with
    | none =>
      obtain ⟨x, rfl, hk2⟩ := hg
      have HK2 : Hid (Kept (fun i => i = b) w w2) := HK1.out.trans hk2
      have HN : Hid (T = none) := HT1.out
      clear hk2 hC
      go_wp2_with fail
      go_ret2
      rw [HN.out]
      exact ⟨_, rfl, HK2.out⟩
    | some c =>
      have hcl := coefsT_len _ _ _ hC.symm
      obtain ⟨cs, cr⟩ := c
      simp only at hcl
      obtain ⟨a2, c2, p2, rfl, ho2, hr2, hcr, hk2⟩ := hg
      simp only at ho2 hcr
      have HW2 : Hid (OwnInts w2 w.heap.size (.slice a1 warm.length c1) warm) := own_keep HO1.out hk2 HBL.out
      have HC2 := hid_of ho2
      have HR2 := hid_of hr2
      have HK2 : Hid (Kept (fun i => i = b) w w2) := HK1.out.trans hk2
      have hs2 : w.heap.size ≤ w2.heap.size := HK2.out.size
      have HLT2 : Hid (∀ i, rv.ownBlock = some i → i < w2.heap.size) := fun i hi => Nat.lt_of_lt_of_le (HLT.out i hi) hs2
      have hcl' : cs.length ≤ 12 := by omega
      obtain ⟨Q, hQ⟩ : ∃ Q, Q = resT m (left l p2) := ⟨_, rfl⟩
      have HQ := hid_of hQ
      have HT2 : Hid (T = Q.bind fun r => if (lrestOut warm r.1 cs).2 = 0 then some ((lrestOut warm r.1 cs).1, r.2) else none) := by
        show _ = _
        rw [HT1.out, hcr, hQ]
        rfl
      clear ho2 hr2 hk2 hcr hcl hC HC HT1
      go_wp2_with fail
      refine (presT_any w2 b rv l p2 m HR2.out HLT2.out (by omega) Q HQ.out).mono ?_
      intro e w3 hg
      cases Q with
      | none =>
        obtain ⟨x, rfl, hk3⟩ := hg
        have HK3 : Hid (Kept (fun i => i = b) w w3) := HK2.out.trans hk3
        have HN : Hid (T = none) := HT2.out
        clear hk3 hQ
        go_wp2_with fail
        go_ret2
        rw [HN.out]
        exact ⟨_, rfl, HK3.out⟩
      | some r =>
        obtain ⟨hrI, hrL⟩ := resT_i64 hQ.symm
        obtain ⟨res, rr⟩ := r
        simp only at hrI hrL
        obtain ⟨a3, c3, p3, rfl, ho3, hr3, hrr, hk3⟩ := hg
        simp only at ho3 hrr
        have HW3 : Hid (Ns w3 a1 c1 warm) := own_ns (own_keep HW2.out hk3 HBL.out)
        have HC3 : Hid (IntsAt w3 a2 cs) := (own_keep HC2.out hk3 HBL1.out).at
        have HRS3 : Hid (IntsAt w3 a3 res) := ho3.at
        have HR3 := hid_of hr3
        have HK3 : Hid (Kept (fun i => i = b) w w3) := HK2.out.trans hk3
        have HI := hid_of hrI
        have hrl : res.length ≤ 100000 := by omega
        obtain ⟨⟨L, k⟩, hRO⟩ : ∃ R, R = lrestOut warm res cs := ⟨_, rfl⟩
        have HRO := hid_of hRO
        have HT3 : Hid (T = if k = 0 then some (L, left l p3) else none) := by
          show _ = _
          rw [HT2.out, hrr]
          simp only [Option.bind_some]
          rw [← hRO]
        clear ho3 hr3 hk3 hrr hrI hrL hQ HQ HT2 hRO
        go_wp2_with fail
        refine (lrest_any w3 a1 a3 a2 c1 c3 c2 warm res cs HW3.out HRS3.out HC3.out (by omega) hrl (by omega) HI.out _ HRO.out).mono ?_
        rintro e w4 hg
        obtain ⟨a4, c4, rfl, ho4, -, hb4⟩ := hg.ok
        have HO4 : Hid (OwnInts w4 w.heap.size (.slice a4 L.length c4) L) := ho4.base HK3.out.size
        have HR4 : Hid (RdAt w4 b rv l p3) := HR3.out.below hb4
        have HK4 : Hid (Kept (fun i => i = b) w w4) := HK3.out.trans (Kept.of_below hb4)
        clear hg ho4 hb4
        by_cases hk0 : k = 0
        · subst hk0
          have HN : Hid (T = some (L, left l p3)) := by show _ = _; rw [HT3.out, if_pos rfl]
          go_wp2_with fail
          go_ret2
          rw [HN.out]
          exact ⟨a4, c4, p3, rfl, HO4.out, HR4.out, rfl, HK4.out⟩
        · have hkb : (k == 0) = false := beq_eq_false_iff_ne.2 hk0
          have HN : Hid (T = none) := by show _ = _; rw [HT3.out, if_neg hk0]
          go_wp2_with fail
          go_ret2
          rw [HN.out]
          exact ⟨_, rfl, HK4.out⟩

end Go.Proofs.YtejgkgnocgplbabGreat

/- frame: taken, Decode. -/
namespace Go.Proofs.YtejgkgnocgplbabGreat
set_option linter.unusedVariables false
set_option linter.unusedSimpArgs false
open Go.RowKit Dg

theorem decP_short {l : List Nat} (h : takeD (left l 0) 8 = none ∨ ∃ K, takeD (left l 0) 8 = some (K, left l 8) ∧ takeD (left l 8) 8 = none) : decP (unpack l) = none := by
  rw [← left_zero]
  unfold decP
  rcases h with h | ⟨K, h1, h2⟩
  · rw [h]; rfl
  · rw [h1]
    simp only [Option.bind_some]
    rw [h2]
    rfl
instance (K n : Nat) : Decidable (badHead K n) := by unfold badHead; infer_instance
theorem decP_at {l : List Nat} {K n : Nat} (h1 : takeD (left l 0) 8 = some (K, left l 8)) (h2 : takeD (left l 8) 8 = some (n, left l 16)) : decP (unpack l) = if badHead K n then none else (sampsT (ordOf K n) (left l 16)).bind fun q => bodyT K n q.1 q.2 := by
  rw [← left_zero]
  unfold decP
  rw [h1]
  simp only [Option.bind_some]
  rw [h2]
  rfl

set_option maxRecDepth 100000 in
set_option maxHeartbeats 8000000 in
theorem ptaken_any (w : World) (b : Nat) (rv : Value) (l : List Nat) (h : RdAt w b rv l 0) (hlt : ∀ i, rv.ownBlock = some i → i < w.heap.size) (T : Option (List Int × List Bool)) (hT : T = decP (unpack l)) :
    Calls Tryz.prog 25 #[.pointer (some ⟨b, 0, none⟩)] w fun e w' => TakeR w w' b rv l T e := by
  have HR := hid_of h
  have HLT := hid_of hlt
  have HBL := hid_of h.lt
  clear h hlt
  by_cases hlen : 8 ≤ (left l 0).length
  case neg =>
    obtain ⟨e1, -⟩ := takeD_none (n := 8) hlen
    have HLEN := hid_of hlen
    have HN : Hid (T = none) := by show _ = _; rw [hT]; exact decP_short (.inl e1)
    clear hT e1 hlen
    go_enter Tryz.func25, Tryz.ntmps25
    go_wp2_with fail
    refine (pget_no w b rv l 0 8 HR.out (by decide) HLEN.out _ rfl).mono ?_
    rintro e w1 ⟨rfl, hk1⟩
    have HK1 := hid_of hk1
    clear hk1
    go_wp2_with fail
    go_ret2
    rw [HN.out]
    exact ⟨_, rfl, HK1.out⟩
  obtain ⟨K, hK⟩ : ∃ K, K = num ((left l 0).take 8) := ⟨_, rfl⟩
  have hKb := num_small (left l 0) 8
  obtain ⟨e1, -⟩ := takeD_some (n := 8) (by decide) hlen
  rw [← hK] at e1 hKb
  rw [← left_drop] at e1
  have HLEN := hid_of hlen
  have HK := hid_of hK
  clear hlen hK
  by_cases hlen2 : 8 ≤ (left l 8).length
  case neg =>
    obtain ⟨e2, -⟩ := takeD_none (n := 8) hlen2
    have HLEN2 := hid_of hlen2
    have HN : Hid (T = none) := by show _ = _; rw [hT]; exact decP_short (.inr ⟨K, e1, e2⟩)
    clear hT e1 e2 hlen2
    go_enter Tryz.func25, Tryz.ntmps25
    go_wp2_with fail
    refine (pget_yes w b rv l 0 8 HR.out (by decide) HLEN.out _ rfl K HK.out).mono ?_
    rintro e w1 ⟨rfl, hr1, hk1⟩
    have HR1 := hid_of hr1
    have HK1 := hid_of hk1
    clear hr1 hk1
    go_wp2_with fail
    refine (pget_no w1 b rv l _ 8 HR1.out (by decide) HLEN2.out _ rfl).mono ?_
    rintro e w2 ⟨rfl, hk2⟩
    have HK2 : Hid (Kept (fun i => i = b) w w2) := HK1.out.trans hk2
    clear hk2
    go_wp2_with fail
    go_ret2
    rw [HN.out]
    exact ⟨_, rfl, HK2.out⟩
  obtain ⟨n, hn⟩ : ∃ n, n = num ((left l 8).take 8) := ⟨_, rfl⟩
  have hnb := num_small (left l 8) 8
  obtain ⟨e2, -⟩ := takeD_some (n := 8) (by decide) hlen2
  rw [← hn] at e2 hnb
  rw [← left_drop] at e2
  have HLEN2 := hid_of hlen2
  have HN2 := hid_of hn
  rw [decP_at e1 e2] at hT
  have hKb' : K < 256 := hKb
  have hnb' : n < 256 := hnb
  clear hlen2 hn e1 e2 hKb hnb
  by_cases hc : 1 ≤ n ∧ n ≤ 64
  case neg =>
    have HC : Hid (false = decide (1 ≤ (n : Int) ∧ (n : Int) ≤ 64)) := (decide_eq_false (by omega)).symm
    have HN : Hid (T = none) := by show _ = _; rw [hT, if_pos]; unfold badHead; omega
    clear hT hc
    go_enter Tryz.func25, Tryz.ntmps25
    go_wp2_with fail
    refine (pget_yes w b rv l 0 8 HR.out (by decide) HLEN.out _ rfl K HK.out).mono ?_
    rintro e w1 ⟨rfl, hr1, hk1⟩
    have HR1 := hid_of hr1
    have HK1 := hid_of hk1
    clear hr1 hk1
    go_wp2_with fail
    refine (pget_yes w1 b rv l _ 8 HR1.out (by decide) HLEN2.out _ rfl n HN2.out).mono ?_
    rintro e w2 ⟨rfl, hr2, hk2⟩
    have HK2 : Hid (Kept (fun i => i = b) w w2) := HK1.out.trans hk2
    clear hk2 hr2
    go_wp2_with (go_at_call 28; refine (pcount_any _ _ false HC.out).mono ?_; rintro e w3 ⟨rfl, rfl⟩)
    go_ret2
    rw [HN.out]
    exact ⟨_, rfl, HK2.out⟩
  obtain ⟨hn1, hn64⟩ := hc
  have HC : Hid (true = decide (1 ≤ (n : Int) ∧ (n : Int) ≤ 64)) := (decide_eq_true (by omega)).symm
  have HT := hid_of hT
  clear hT
  go_enter Tryz.func25, Tryz.ntmps25
  go_wp2_with fail
  refine (pget_yes w b rv l 0 8 HR.out (by decide) HLEN.out _ rfl K HK.out).mono ?_
  rintro e w1 ⟨rfl, hr1, hk1⟩
  have HR1 := hid_of hr1
  have HK1 := hid_of hk1
  clear hr1 hk1
  go_wp2_with fail
  refine (pget_yes w1 b rv l _ 8 HR1.out (by decide) HLEN2.out _ rfl n HN2.out).mono ?_
  rintro e w2 ⟨rfl, hr2, hk2⟩
  have HR2 : Hid (RdAt w2 b rv l 16) := hr2
  have HK2 : Hid (Kept (fun i => i = b) w w2) := HK1.out.trans hk2
  have hs2 : w.heap.size ≤ w2.heap.size := HK2.out.size
  have HLT2 : Hid (∀ i, rv.ownBlock = some i → i < w2.heap.size) := fun i hi => Nat.lt_of_lt_of_le (HLT.out i hi) hs2
  clear hr2 hk2
  have fin : ∀ (T' : Option (List Int × List Bool)) (w3 : World) (e : Ending), TakeR w2 w3 b rv l T' e → TakeR w w3 b rv l T' e := by
    intro T' w3 e h
    cases T' with
    | none =>
      obtain ⟨x, he, hk⟩ := h
      exact ⟨x, he, HK2.out.trans hk⟩
    | some q =>
      obtain ⟨a, c, p, he, ho, hr, hq, hk⟩ := h
      exact ⟨a, c, p, he, ho.base hs2, hr, hq, HK2.out.trans hk⟩
  have FIN := hid_of fin
  clear fin HR1 HK1 HLEN HLEN2 HK HN2
  rcases (by omega : K = 0 ∨ K = 1 ∨ (2 ≤ K ∧ K ≤ 6) ∨ (7 ≤ K ∧ K ≤ 18) ∨ 18 < K) with rfl | rfl | ⟨h1, h2⟩ | ⟨h1, h2⟩ | h1
  · have HTT : Hid (T = (sampsT 1 (left l 16)).map fun q => (List.replicate n (q.1.getD 0 0), q.2)) := by
      show _ = _
      rw [HT.out, if_neg (by unfold badHead; simp [ordOf]; omega)]
      have e : ordOf 0 n = 1 := by simp [ordOf]
      rw [e]
      cases sampsT 1 (left l 16) with
      | none => rfl
      | some q => rfl
    clear HT
    go_wp2_with (go_at_call 28; refine (pcount_any _ _ true HC.out).mono ?_; rintro e w3 ⟨rfl, rfl⟩)
    refine (pconstT_any w2 b rv l 16 n HR2.out HLT2.out hn1 (by omega) T HTT.out).mono ?_
    rintro e w3 h3
    have H3 := hid_of (FIN.out _ _ _ h3)
    obtain ⟨x, t, rfl⟩ := h3.form
    clear h3
    go_wp2_with fail
    go_ret2
    exact H3.out
  · have HTT : Hid (T = sampsT n (left l 16)) := by
      show _ = _
      rw [HT.out, if_neg (by unfold badHead; simp [ordOf]; omega)]
      have e : ordOf 1 n = n := by simp [ordOf]
      rw [e]
      cases sampsT n (left l 16) with
      | none => rfl
      | some q => rfl
    clear HT
    go_wp2_with (go_at_call 28; refine (pcount_any _ _ true HC.out).mono ?_; rintro e w3 ⟨rfl, rfl⟩)
    refine (psamps_any w2 b rv l 16 n HR2.out HLT2.out (by omega) _ rfl T HTT.out).mono ?_
    rintro e w3 h3
    have H3 := hid_of (FIN.out _ _ _ h3)
    obtain ⟨x, t, rfl⟩ := h3.form
    clear h3
    go_wp2_with fail
    go_ret2
    exact H3.out
  · obtain ⟨o, ho⟩ : ∃ o : Nat, (o : Int) = (K : Int) - 2 := ⟨K - 2, by omega⟩
    have HO := hid_of ho
    have hkb0 : ((K : Int) == 0) = false := beq_eq_false_iff_ne.2 (by omega)
    have hkb1 : ((K : Int) == 1) = false := beq_eq_false_iff_ne.2 (by omega)
    have ho4 : o ≤ 4 := by omega
    have HTT : Hid (T = if n < o then none else (sampsT o (left l 16)).bind fun q => (resT (n - o) q.2).bind fun r => if (restOut q.1 r.1).2 = 0 then some ((restOut q.1 r.1).1, r.2) else none) := by
      show _ = _
      have eo : ordOf K n = o := by unfold ordOf; rw [if_neg (by omega), if_neg (by omega), if_pos (by omega)]; omega
      rw [HT.out]
      by_cases hno : n < o
      · rw [if_pos hno, if_pos (by unfold badHead; omega)]
      · rw [if_neg hno, if_neg (by unfold badHead; omega), eo]
        cases sampsT o (left l 16) with
        | none => rfl
        | some q =>
          simp only [Option.bind_some]
          unfold bodyT
          rw [if_neg (by omega), if_neg (by omega), if_pos (by omega), eo]
    clear HT ho
    go_wp2_with first
      | (go_at_call 28; refine (pcount_any _ _ true HC.out).mono ?_; rintro e w3 ⟨rfl, rfl⟩)
      | (go_at_call 39; refine (pfix_any _ _ (by omega) (by omega) _ HO.out).mono ?_; rintro e w4 ⟨rfl, rfl⟩)
    refine (pfixT_any w2 b rv l 16 n o HR2.out HLT2.out hn64 ho4 T HTT.out).mono ?_
    rintro e w3 h3
    have H3 := hid_of (FIN.out _ _ _ h3)
    obtain ⟨x, t, rfl⟩ := h3.form
    clear h3
    go_wp2_with fail
    go_ret2
    exact H3.out
  · obtain ⟨o, ho⟩ : ∃ o : Nat, (o : Int) = (K : Int) - 6 := ⟨K - 6, by omega⟩
    have HO := hid_of ho
    have hkb0 : ((K : Int) == 0) = false := beq_eq_false_iff_ne.2 (by omega)
    have hkb1 : ((K : Int) == 1) = false := beq_eq_false_iff_ne.2 (by omega)
    have ho1 : 1 ≤ o := by omega
    have ho12 : o ≤ 12 := by omega
    have HTT : Hid (T = if n ≤ o then none else (sampsT o (left l 16)).bind fun q => (coefsT o q.2).bind fun c => (resT (n - o) c.2).bind fun r => if (lrestOut q.1 r.1 c.1).2 = 0 then some ((lrestOut q.1 r.1 c.1).1, r.2) else none) := by
      show _ = _
      have eo : ordOf K n = o := by unfold ordOf; rw [if_neg (by omega), if_neg (by omega), if_neg (by omega)]; omega
      rw [HT.out]
      by_cases hno : n ≤ o
      · rw [if_pos hno, if_pos (by unfold badHead; omega)]
      · rw [if_neg hno, if_neg (by unfold badHead; omega), eo]
        cases sampsT o (left l 16) with
        | none => rfl
        | some q =>
          simp only [Option.bind_some]
          unfold bodyT
          rw [if_neg (by omega), if_neg (by omega), if_neg (by omega), eo]
    clear HT ho
    go_wp2_with first
      | (go_at_call 28; refine (pcount_any _ _ true HC.out).mono ?_; rintro e w3 ⟨rfl, rfl⟩)
      | (go_at_call 41; refine (plpc_any _ _ (by omega) (by omega) _ HO.out).mono ?_; rintro e w4 ⟨rfl, rfl⟩)
    refine (plpcT_any w2 b rv l 16 n o HR2.out HLT2.out hn64 ho1 ho12 T HTT.out).mono ?_
    rintro e w3 h3
    have H3 := hid_of (FIN.out _ _ _ h3)
    obtain ⟨x, t, rfl⟩ := h3.form
    clear h3
    go_wp2_with fail
    go_ret2
    exact H3.out
  · have hkb0 : ((K : Int) == 0) = false := beq_eq_false_iff_ne.2 (by omega)
    have hkb1 : ((K : Int) == 1) = false := beq_eq_false_iff_ne.2 (by omega)
    have HN : Hid (T = none) := by show _ = _; rw [HT.out, if_pos]; unfold badHead; omega
    clear HT
    go_wp2_with (go_at_call 28; refine (pcount_any _ _ true HC.out).mono ?_; rintro e w3 ⟨rfl, rfl⟩)
    go_ret2
    rw [HN.out]
    exact ⟨_, rfl, HK2.out⟩

set_option maxRecDepth 100000 in
set_option maxHeartbeats 4000000 in
theorem fdec_any (w : World) (v : Value) (l : List Nat) (h : SlAt w v l) (hl : l.length ≤ 1000000) (hby : ∀ x ∈ l, x < 256) (R : List Int × Int) (hR : R = decOut 2 l) :
    Calls Tryz.prog 18 #[v] w fun e w' => Gave w w' R e := by
  have HL := hid_of h
  have HBY := hid_of hby
  rw [decOut_of, decD_P] at hR
  obtain ⟨T, hT⟩ : ∃ T, T = decP (unpack l) := ⟨_, rfl⟩
  rw [← hT] at hR
  have HT := hid_of hT
  have HRR := hid_of hR
  clear h hby hR hT
  go_enter Tryz.func18, Tryz.ntmps18
  go_wp2_with fail
  refine (newReader_any w v l HL.out (by omega) HBY.out).mono ?_
  rintro e w1 ⟨b, rfl, hbw, hr1, hb1⟩
  have hrv : ∀ i, (Value.slice (some ⟨w.heap.size, 0, none⟩) l.length l.length).ownBlock = some i → i < w1.heap.size := by
    intro i hi
    have h1 := hr1.lt
    simp [Value.ownBlock] at hi
    omega
  generalize hrvE : Value.slice (some ⟨w.heap.size, 0, none⟩) l.length l.length = rv at hr1 hrv
  have HR1 := hid_of hr1
  have HB1 := hid_of hb1
  have HLT := hid_of hrv
  have HBW := hid_of hbw
  clear hr1 hb1 hrv hbw hrvE
  go_wp2_with fail
  refine (ptaken_any w1 b rv l HR1.out HLT.out T HT.out).mono ?_
  intro e w2 hg
  have key : Kept (fun i => i = b) w1 w2 → Below w.heap.size w w2 := fun hk => hk.below_of HB1.out (fun k hf => by have := HBW.out; omega) HB1.out.size
  cases T with
  | none =>
    obtain ⟨x, rfl, hk2⟩ := hg
    have HB2 := hid_of (key hk2)
    have HN : Hid (R = ([], 2)) := HRR.out
    clear hk2 key
    go_wp2_with fail
    go_ret2
    exact Gave.none HN.out HB2.out
  | some q =>
    obtain ⟨xs, qr⟩ := q
    obtain ⟨a2, c2, p2, rfl, ho2, hr2, hqr, hk2⟩ := hg
    simp only at ho2 hqr
    have HB2 := hid_of (key hk2)
    have HO2 : Hid (OwnInts w2 w.heap.size (.slice a2 xs.length c2) xs) := ho2.base HB1.out.size
    have HR2 := hid_of hr2
    obtain ⟨q, hq⟩ : ∃ q, q = noOnes (left l p2) := ⟨_, rfl⟩
    have HQ := hid_of hq
    have HR3 : Hid (R = outOf (if q = true then some xs else none)) := by
      show _ = _
      rw [HRR.out, hqr, hq]
      rfl
    clear ho2 hr2 hqr hk2 key hq HRR
    cases q with
    | true =>
      go_wp2_with (go_at_call 26; refine (rest_all' w2 b rv l p2 HR2.out true HQ.out).mono ?_; rintro e w3 ⟨rfl, rfl⟩)
      go_ret2
      rw [HR3.out]
      exact ⟨_, rfl, HO2.out, HB2.out⟩
    | false =>
      go_wp2_with (go_at_call 26; refine (rest_all' w2 b rv l p2 HR2.out false HQ.out).mono ?_; rintro e w3 ⟨rfl, rfl⟩)
      go_ret2
      exact Gave.none HR3.out HB2.out

end Go.Proofs.YtejgkgnocgplbabGreat

/- Encode, As, Decode and Kind of frame: the four contracts that the laws lean on. -/
namespace Go.Proofs.YtejgkgnocgplbabGreat
set_option linter.unusedVariables false
set_option linter.unusedSimpArgs false
open Go.RowKit Dg

theorem fenc_any (w : World) (s : Nat) (a : Option Addr) (cap : Nat) (l : List Int) (hl : Ns w a cap l) (hll : l.length ≤ 1000000) (hs : mayX l → IsShift (autoZ l 0) s) (R : List Nat × Int) (hR : R = encOut l s) :
    Calls Tryz.prog 21 #[.slice a l.length cap] w fun e w' => GaveN w w' R e := by
  refine (fenc_full w s a cap l hl hll hs R hR).mono ?_
  rintro e w' ⟨v, h1, h2, -, h3⟩
  exact ⟨v, h1, h2, h3⟩
theorem kind_first {l : List Nat} {x : List Int} (h : decD (unpack l) = some x) : ∃ b : Nat, l[0]? = some b ∧ kindOut l = (b : Int) := by
  cases l with
  | nil => rw [unpack_nil] at h; cases h
  | cons b l =>
    refine ⟨b, rfl, ?_⟩
    unfold kindOut
    rw [h]
    rfl
end Go.Proofs.YtejgkgnocgplbabGreat

/- Frames, on: which is the shortest; a frame that is cut short; the first byte; no program. -/
namespace Go.Proofs.YtejgkgnocgplbabGreat
set_option linter.unusedVariables false
set_option linter.unusedSimpArgs false
open Go.RowKit Dg

theorem frm_verb {x : List Int} (h : mayX x) (s : Nat) : frm 1 x s = some (headD 1 x.length ++ sampsD x) := by
  unfold frm
  rw [if_neg (by simp [h]), if_neg (by decide), if_pos rfl]
theorem frm_ne {kind : Int} {x : List Int} {s : Nat} {D : List Bool} (h : frm kind x s = some D) : 16 ≤ D.length ∧ mayX x ∧ 0 ≤ kind ∧ kind ≤ 18 ∧ ∃ E, D = headD kind x.length ++ E := by
  have key : ∀ E, D = headD kind x.length ++ E → 16 ≤ D.length := fun E e => by rw [e]; simp
  unfold frm at h
  by_cases hk : ¬ mayX x ∨ kind < 0 ∨ 18 < kind
  · rw [if_pos hk] at h; cases h
  rw [if_neg hk] at h
  have hm : mayX x := by
    by_cases hm : mayX x
    · exact hm
    · exact absurd (Or.inl hm) hk
  have fin : (∃ E, D = headD kind x.length ++ E) → 16 ≤ D.length ∧ mayX x ∧ 0 ≤ kind ∧ kind ≤ 18 ∧ ∃ E, D = headD kind x.length ++ E := fun ⟨E, e⟩ => ⟨key E e, hm, by omega, by omega, E, e⟩
  apply fin
  by_cases h0 : kind = 0
  · rw [if_pos h0] at h
    by_cases ha : allOne x
    · rw [if_pos ha] at h; cases h; exact ⟨_, rfl⟩
    · rw [if_neg ha] at h; cases h
  rw [if_neg h0] at h
  by_cases h1 : kind = 1
  · rw [if_pos h1] at h; cases h; exact ⟨_, rfl⟩
  rw [if_neg h1] at h
  by_cases h6 : kind ≤ 6
  · rw [if_pos h6] at h
    by_cases hl : (x.length : Int) < kind - 2
    · rw [if_pos hl] at h; cases h
    rw [if_neg hl] at h
    by_cases hz : okZ (residZ x (kind - 2).toNat)
    · rw [if_pos hz] at h; cases h; exact ⟨_, List.append_assoc _ _ _⟩
    · rw [if_neg hz] at h; cases h
  rw [if_neg h6] at h
  by_cases hc : (coOut x (kind - 6) s).2 = true
  · rw [if_pos hc] at h
    by_cases hz : okZ (lresidZ x (coOut x (kind - 6) s).1)
    · rw [if_pos hz] at h; cases h; exact ⟨_, by simp only [List.append_assoc]; rfl⟩
    · rw [if_neg hz] at h; cases h
  · rw [if_neg hc] at h; cases h
/-- The shortest of the first kinds is one of them, and none is shorter. -/
theorem bestF_cases (x : List Int) (s j : Nat) : (bestF x s j = [] ∧ ∀ i, i < j → frm (i : Int) x s = none) ∨ ∃ i, i < j ∧ frm (i : Int) x s = some (bestF x s j) ∧ ∀ k D, k < j → frm (k : Int) x s = some D → (bestF x s j).length ≤ D.length ∧ (k < i → (bestF x s j).length < D.length) := by
  induction j with
  | zero => exact .inl ⟨rfl, fun i hi => by omega⟩
  | succ j ih =>
    cases hF : frm (j : Int) x s with
    | none =>
      have e : bestF x s (j + 1) = bestF x s j := by simp only [bestF]; rw [hF]
      rw [e]
      rcases ih with ⟨h1, h2⟩ | ⟨i, h1, h2, h3⟩
      · refine .inl ⟨h1, fun i hi => ?_⟩
        rcases (by omega : i < j ∨ i = j) with h | h
        · exact h2 i h
        · rw [h]; exact hF
      · refine .inr ⟨i, by omega, h2, fun k D hk hD => ?_⟩
        rcases (by omega : k < j ∨ k = j) with h | h
        · exact h3 k D h hD
        · rw [h, hF] at hD; cases hD
    | some b =>
      have hb := (frm_ne hF).1
      have e : bestF x s (j + 1) = if (bestF x s j).length = 0 ∨ b.length < (bestF x s j).length then b else bestF x s j := by simp only [bestF]; rw [hF]
      rcases ih with ⟨h1, h2⟩ | ⟨i, h1, h2, h3⟩
      · have e2 : bestF x s (j + 1) = b := by rw [e, if_pos (.inl (by rw [h1]; rfl))]
        rw [e2]
        refine .inr ⟨j, by omega, hF, fun k D hk hD => ?_⟩
        rcases (by omega : k < j ∨ k = j) with h | h
        · rw [h2 k h] at hD; cases hD
        · rw [h, hF] at hD; cases hD; exact ⟨Nat.le_refl _, fun h => by omega⟩
      · have hbe := (frm_ne h2).1
        by_cases hlt : b.length < (bestF x s j).length
        · have e2 : bestF x s (j + 1) = b := by rw [e, if_pos (.inr hlt)]
          rw [e2]
          refine .inr ⟨j, by omega, hF, fun k D hk hD => ?_⟩
          rcases (by omega : k < j ∨ k = j) with h | h
          · have := (h3 k D h hD).1
            exact ⟨by omega, fun _ => by omega⟩
          · rw [h, hF] at hD; cases hD; exact ⟨Nat.le_refl _, fun h => by omega⟩
        · have e2 : bestF x s (j + 1) = bestF x s j := by rw [e, if_neg (by omega)]
          rw [e2]
          refine .inr ⟨i, by omega, h2, fun k D hk hD => ?_⟩
          rcases (by omega : k < j ∨ k = j) with h | h
          · exact h3 k D h hD
          · rw [h, hF] at hD; cases hD; exact ⟨by omega, fun h => by omega⟩
/-- Of samples that may be there is a shortest frame. -/
theorem bestF_any {x : List Int} (h : mayX x) (s : Nat) : ∃ i : Nat, i < 19 ∧ frm (i : Int) x s = some (bestF x s 19) ∧ ∀ (k : Nat) (D : List Bool), k < 19 → frm (k : Int) x s = some D → (bestF x s 19).length ≤ D.length ∧ (k < i → (bestF x s 19).length < D.length) := by
  rcases bestF_cases x s 19 with ⟨-, h2⟩ | h1
  · have := h2 1 (by decide)
    rw [show ((1 : Nat) : Int) = 1 from rfl, frm_verb h s] at this
    cases this
  · exact h1
theorem bestF_verb {x : List Int} (h : mayX x) (s : Nat) : (bestF x s 19).length ≤ 16 + 24 * x.length := by
  obtain ⟨i, -, -, h3⟩ := bestF_any h s
  have := (h3 1 _ (by decide) (frm_verb h s)).1
  simp at this
  exact this
/-- Bytes behind bytes. -/
theorem unpack_append (l m : List Nat) : unpack (l ++ m) = unpack l ++ unpack m := by simp [unpack]
theorem unpack_zeros (k : Nat) : unpack (List.replicate k 0) = List.replicate (8 * k) false := by
  induction k with
  | zero => rfl
  | succ k ih =>
    rw [List.replicate_succ, unpack_cons, ih]
    have e : (List.range 8).map (digitOf 0) = List.replicate 8 false := by decide
    rw [e, List.replicate_append_replicate]
    congr 1
    omega
/-- A frame's bytes, and anything behind them. -/
theorem decD_pack {kind : Int} {x : List Int} {s : Nat} {D : List Bool} (h : frm kind x s = some D) (m : List Nat) : decD (unpack (pack D ++ m)) = if noOnes (unpack m) = true then some x else none := by
  rw [unpack_append, unpack_pack, List.append_assoc, decD_tail h]
  have e : noOnes (List.replicate ((8 - D.length % 8) % 8) false ++ unpack m) = noOnes (unpack m) := by
    unfold noOnes
    rw [List.any_append]
    simp
  rw [e]
theorem decOut_pack {kind : Int} {x : List Int} {s : Nat} {D : List Bool} (h : frm kind x s = some D) (E : Int) : decOut E (pack D) = (x, 0) := by
  have := decD_pack h []
  rw [List.append_nil, if_pos (by rfl)] at this
  unfold decOut
  rw [this]
theorem pack_first {kind : Int} {n : Nat} {E : List Bool} (h0 : 0 ≤ kind) (h1 : kind ≤ 18) : (pack (headD kind n ++ E)).getD 0 0 = kind.toNat := by
  have hl : 0 < ((headD kind n ++ E).length + 7) / 8 := by simp; omega
  rw [List.getD, pack_get _ 0 hl]
  simp only [Option.getD_some]
  have hu := unpack_pack (headD kind n ++ E)
  have hx := byteAt_lt (headD kind n ++ E) 0
  obtain ⟨b, hb⟩ : ∃ b, b = byteAt (headD kind n ++ E) 0 := ⟨_, rfl⟩
  rw [← hb] at hx ⊢
  have e1 : (unpack (pack (headD kind n ++ E))).take 8 = dig (b : Int) 8 := by
    have e2 : pack (headD kind n ++ E) = b :: (pack (headD kind n ++ E)).tail := by
      have h2 := pack_get (headD kind n ++ E) 0 hl
      cases hp : pack (headD kind n ++ E) with
      | nil => rw [hp] at h2; simp at h2
      | cons y ys => rw [hp] at h2; simp at h2; rw [hb, h2]; rfl
    rw [e2, unpack_cons, ← dig8, List.take_left' (by simp)]
  have e3 : (unpack (pack (headD kind n ++ E))).take 8 = dig kind 8 := by
    rw [hu]
    unfold headD
    simp only [List.append_assoc]
    rw [List.take_left' (by simp)]
  have h4 := num_dig (b : Int) 8
  have h5 := num_dig kind 8
  rw [← e1, e3, h5] at h4
  omega
theorem kindOut_pack {kind : Int} {x : List Int} {s : Nat} {D : List Bool} (h : frm kind x s = some D) : kindOut (pack D) = kind := by
  have h1 := decD_pack h []
  rw [List.append_nil, if_pos (by rfl)] at h1
  obtain ⟨-, -, h2, h3, E, rfl⟩ := frm_ne h
  unfold kindOut
  rw [h1]
  simp only
  rw [pack_first h2 h3]
  omega

theorem takeD_ext {ds : List Bool} {n : Nat} {q : Nat × List Bool} (h : takeD ds n = some q) (t : List Bool) : takeD (ds ++ t) n = some (q.1, q.2 ++ t) := by
  unfold takeD at h ⊢
  split at h
  · rename_i hl
    cases h
    rw [if_pos (by simp; omega), List.take_append_of_le_length hl, List.drop_append_of_le_length hl]
  · cases h
theorem sampsT_ext : ∀ (n : Nat) (ds : List Bool) (q : List Int × List Bool), sampsT n ds = some q → ∀ t, sampsT n (ds ++ t) = some (q.1, q.2 ++ t) := by
  intro n
  induction n with
  | zero => intro ds q h t; simp [sampsT] at h ⊢; subst h; exact ⟨rfl, rfl⟩
  | succ n ih =>
    intro ds q h t
    rw [sampsT] at h ⊢
    obtain ⟨r, h1, h2⟩ := Option.bind_eq_some_iff.1 h
    obtain ⟨q', h3, rfl⟩ := Option.map_eq_some_iff.1 h2
    rw [takeD_ext h1 t]
    simp only [Option.bind_some]
    rw [ih _ _ h3 t]
    rfl
theorem coefsT_ext : ∀ (n : Nat) (ds : List Bool) (q : List Int × List Bool), coefsT n ds = some q → ∀ t, coefsT n (ds ++ t) = some (q.1, q.2 ++ t) := by
  intro n
  induction n with
  | zero => intro ds q h t; simp [coefsT] at h ⊢; subst h; exact ⟨rfl, rfl⟩
  | succ n ih =>
    intro ds q h t
    rw [coefsT] at h ⊢
    obtain ⟨r, h1, h2⟩ := Option.bind_eq_some_iff.1 h
    obtain ⟨q', h3, rfl⟩ := Option.map_eq_some_iff.1 h2
    rw [takeD_ext h1 t]
    simp only [Option.bind_some]
    rw [ih _ _ h3 t]
    rfl
theorem getOut_ext {ds : List Bool} {n : Int} (h : (getOut ds n).2.2 = true) (t : List Bool) : getOut (ds ++ t) n = getOut ds n ∧ (getOut ds n).2.1 ≤ ds.length := by
  unfold getOut at h ⊢
  by_cases hc : 0 ≤ n ∧ n ≤ 62 ∧ n ≤ ds.length
  · rw [if_pos hc, if_pos ⟨hc.1, hc.2.1, by simp; omega⟩, List.take_append_of_le_length (by omega)]
    exact ⟨rfl, by simp; omega⟩
  · rw [if_neg hc] at h; cases h
theorem lead_ext (t : List Bool) : ∀ (ds : List Bool) (m : Nat), (lead ds m = m ∨ lead ds m < ds.length) → lead (ds ++ t) m = lead ds m := by
  intro ds
  induction ds with
  | nil =>
    intro m h
    cases m with
    | zero => cases t <;> rfl
    | succ m => rcases h with h | h <;> simp [lead] at h
  | cons d ds ih =>
    intro m h
    cases m with
    | zero => rfl
    | succ m =>
      cases d with
      | false => rfl
      | true =>
        simp only [List.cons_append, lead] at h ⊢
        rw [ih m (by simp at h; omega)]
theorem onesOut_ext {ds : List Bool} {n : Int} (h : (onesOut ds n).2.2 = true) (t : List Bool) : onesOut (ds ++ t) n = onesOut ds n ∧ (onesOut ds n).2.1 ≤ ds.length := by
  unfold onesOut at h ⊢
  by_cases hc : 0 ≤ n ∧ n ≤ 1024
  · rw [if_pos hc] at h
    rw [if_pos hc, if_pos hc]
    have hle := lead_le_length ds n.toNat
    by_cases h1 : lead ds n.toNat = n.toNat
    · rw [lead_ext t ds _ (.inl h1), if_pos h1, if_pos h1]
      exact ⟨rfl, by simp; omega⟩
    · rw [if_neg h1] at h
      by_cases h2 : lead ds n.toNat = ds.length
      · rw [if_pos h2] at h; cases h
      · rw [lead_ext t ds _ (.inr (by omega)), if_neg h1, if_neg h1, if_neg h2, if_neg (by simp; omega)]
        exact ⟨rfl, by simp; omega⟩
  · rw [if_neg hc] at h; cases h
theorem riceOut_ext {ds : List Bool} {k : Int} (h : (riceOut ds k).2.2 = true) (t : List Bool) : riceOut (ds ++ t) k = riceOut ds k ∧ (riceOut ds k).2.1 ≤ ds.length := by
  unfold riceOut at h ⊢
  by_cases hp : isPar k = true
  case neg => rw [if_neg hp] at h; cases h
  rw [if_pos hp] at h
  rw [if_pos hp, if_pos hp]
  by_cases ho : (onesOut ds 24).2.2 = true
  case neg => rw [if_neg ho] at h; cases h
  obtain ⟨e1, e2⟩ := onesOut_ext ho t
  rw [if_pos ho] at h
  rw [e1, if_pos ho, if_pos ho]
  have hk := isPar_true hp
  rcases onesOut_cases ds with hc | hc | ⟨c, hc24, hc⟩
  · rw [hc] at ho; cases ho
  · rw [hc] at h e2 ⊢
    simp only [if_true] at h e2 ⊢
    by_cases hg : (getOut (ds.drop 24) 32).2.2 = true ∧ 24 ≤ (getOut (ds.drop 24) 32).1 / 2 ^ k.toNat
    · obtain ⟨f1, f2⟩ := getOut_ext hg.1 t
      have f3 : (getOut (ds.drop 24) 32).2.1 = 32 := by
        rcases getOut_cases (ds.drop 24) 32 with h1 | ⟨v, -, -, h1⟩
        · have h2 := hg.1
          rw [show getOut (ds.drop 24) 32 = (0, 0, false) from h1] at h2; cases h2
        · rw [show getOut (ds.drop 24) 32 = (v, 32, true) from h1]
      rw [List.drop_append_of_le_length e2, f1, if_pos hg]
      rw [f3] at f2
      simp at f2
      exact ⟨rfl, by simp; omega⟩
    · rw [if_neg hg] at h; cases h
  · rw [hc] at h e2 ⊢
    have hne : ¬ c = 24 := by omega
    simp only [if_neg hne] at h e2 ⊢
    by_cases hg : (getOut (ds.drop (c + 1)) k).2.2 = true
    · obtain ⟨f1, f2⟩ := getOut_ext hg t
      have f3 : (getOut (ds.drop (c + 1)) k).2.1 = k.toNat := by
        have ek : k = ((k.toNat : Nat) : Int) := by omega
        rcases getOut_cases (ds.drop (c + 1)) k.toNat with h1 | ⟨v, -, -, h1⟩
        · rw [← ek] at h1; rw [h1] at hg; cases hg
        · rw [← ek] at h1; rw [h1]
      rw [List.drop_append_of_le_length e2, f1, if_pos hg]
      rw [f3] at f2
      simp at f2
      exact ⟨rfl, by simp; omega⟩
    · rw [if_neg hg] at h; cases h
theorem ricesT_ext (k : Nat) : ∀ (n : Nat) (ds : List Bool) (q : List Int × List Bool), ricesT k n ds = some q → ∀ t, ricesT k n (ds ++ t) = some (q.1, q.2 ++ t) := by
  intro n
  induction n with
  | zero => intro ds q h t; simp [ricesT] at h ⊢; subst h; exact ⟨rfl, rfl⟩
  | succ n ih =>
    intro ds q h t
    rw [ricesT] at h ⊢
    split at h
    · rename_i ho
      obtain ⟨q', h3, rfl⟩ := Option.map_eq_some_iff.1 h
      obtain ⟨e1, e2⟩ := riceOut_ext ho t
      rw [e1, if_pos ho, List.drop_append_of_le_length e2, ih _ _ h3 t]
      rfl
    · cases h
theorem resT_ext {n : Nat} {ds : List Bool} {q : List Int × List Bool} (h : resT n ds = some q) (t : List Bool) : resT n (ds ++ t) = some (q.1, q.2 ++ t) := by
  unfold resT at h ⊢
  obtain ⟨r, h1, h2⟩ := Option.bind_eq_some_iff.1 h
  rw [takeD_ext h1 t]
  simp only [Option.bind_some]
  split at h2
  · cases h2
  · rename_i hk
    rw [if_neg hk]
    exact ricesT_ext _ _ _ _ h2 t
theorem bodyT_ext {K n : Nat} {x : List Int} {ds : List Bool} {q : List Int × List Bool} (h : bodyT K n x ds = some q) (t : List Bool) : bodyT K n x (ds ++ t) = some (q.1, q.2 ++ t) := by
  unfold bodyT at h ⊢
  by_cases h0 : K = 0
  · rw [if_pos h0] at h ⊢; cases h; rfl
  rw [if_neg h0] at h ⊢
  by_cases h1 : K = 1
  · rw [if_pos h1] at h ⊢; cases h; rfl
  rw [if_neg h1] at h ⊢
  by_cases h6 : K ≤ 6
  · rw [if_pos h6] at h ⊢
    obtain ⟨r, g1, g2⟩ := Option.bind_eq_some_iff.1 h
    rw [resT_ext g1 t]
    simp only [Option.bind_some]
    split at g2
    · rename_i hz; rw [if_pos hz]; cases g2; rfl
    · cases g2
  · rw [if_neg h6] at h ⊢
    obtain ⟨c, g0, g⟩ := Option.bind_eq_some_iff.1 h
    obtain ⟨r, g1, g2⟩ := Option.bind_eq_some_iff.1 g
    rw [coefsT_ext _ _ _ g0 t]
    simp only [Option.bind_some]
    rw [resT_ext g1 t]
    simp only [Option.bind_some]
    split at g2
    · rename_i hz; rw [if_pos hz]; cases g2; rfl
    · cases g2
theorem decP_ext {ds : List Bool} {q : List Int × List Bool} (h : decP ds = some q) (t : List Bool) : decP (ds ++ t) = some (q.1, q.2 ++ t) := by
  unfold decP at h ⊢
  obtain ⟨r1, h1, h⟩ := Option.bind_eq_some_iff.1 h
  obtain ⟨r2, h2, h⟩ := Option.bind_eq_some_iff.1 h
  rw [takeD_ext h1 t]
  simp only [Option.bind_some]
  rw [takeD_ext h2 t]
  simp only [Option.bind_some]
  split at h
  · cases h
  · rename_i hg
    rw [if_neg hg]
    obtain ⟨r3, h3, h⟩ := Option.bind_eq_some_iff.1 h
    rw [sampsT_ext _ _ _ h3 t]
    simp only [Option.bind_some]
    exact bodyT_ext h t
/-- A frame that is cut short is none. -/
theorem decD_cut {kind : Int} {x : List Int} {s : Nat} {D E F : List Bool} (h : frm kind x s = some D) (t : List Bool) (e : D ++ t = E ++ F) (hl : E.length < D.length) : decD E = none := by
  cases hE : decP E with
  | none => rw [decD_P, hE]; rfl
  | some q =>
    have h1 := decP_ext hE F
    rw [← e, decP_tail h t] at h1
    cases h1
    have h2 := congrArg List.length e
    simp at h2
    omega
theorem decD_short8 {kind : Int} {x : List Int} {s : Nat} {D : List Bool} (h : frm kind x s = some D) : decD (unpack ((pack D).take ((pack D).length - 1))) = none := by
  have hD := (frm_ne h).1
  refine decD_cut (t := List.replicate ((8 - D.length % 8) % 8) false) (F := unpack ((pack D).drop ((pack D).length - 1))) h ?_ (by simp; omega)
  rw [← unpack_pack, ← unpack_append, List.take_append_drop]

end Go.Proofs.YtejgkgnocgplbabGreat
