/- frame: a constant, the predictors' samples out of a reader. -/
import Derived.Test.YtlonnoapbfjomabGreatDec1
import Derived.Test.YtlonnoapbfjomabGreatFrm7
import Derived.Test.YtlonnoapbfjomabGreatLev2
import Derived.Test.YtlonnoapbfjomabGreatFix5
namespace Go.Proofs.YtlonnoapbfjomabGreat
set_option linter.unusedVariables false
set_option linter.unusedSimpArgs false
open Go.RowKit Dg

theorem own_ns {w : World} {base cap : Nat} {a : Option Addr} {l : List Int} (h : OwnInts w base (.slice a l.length cap) l) : Ns w a cap l := by
  obtain ⟨a', c', e, hn, -, -⟩ := h.ns
  cases e
  exact hn
theorem coefsT_len (n : Nat) (ds : List Bool) (q : List Int × List Bool) (h : coefsT n ds = some q) : q.1.length = n := by
  induction n generalizing ds q with
  | zero => simp [coefsT] at h; subst h; rfl
  | succ n ih =>
    rw [coefsT] at h
    cases h1 : takeD ds 16 with
    | none => rw [h1] at h; cases h
    | some r =>
      rw [h1] at h
      simp only [Option.bind_some] at h
      cases h2 : coefsT n r.2 with
      | none => rw [h2] at h; cases h
      | some q' =>
        rw [h2] at h
        cases h
        simp [ih _ _ h2]

set_option maxRecDepth 100000 in
set_option maxHeartbeats 4000000 in
theorem pconstT_any (w : World) (b : Nat) (rv : Value) (l : List Nat) (p0 n : Nat) (h : RdAt w b rv l p0) (hlt : ∀ i, rv.ownBlock = some i → i < w.heap.size) (hn1 : 1 ≤ n) (hn : n ≤ 1000) (T : Option (List Int × List Bool)) (hT : T = (sampsT 1 (left l p0)).map fun q => (List.replicate n (q.1.getD 0 0), q.2)) :
    Calls Tryz.prog 59 #[.pointer (some ⟨b, 0, none⟩), .int .i64 (n : Int)] w fun e w' => TakeR w w' b rv l T e := by
  obtain ⟨i0, hi, hz0, hz1, hz2⟩ := info_parts Tryz.info3
  have HR := hid_of h
  have HLT := hid_of hlt
  have HBL := hid_of h.lt
  obtain ⟨S, hS⟩ : ∃ S, S = sampsT 1 (left l p0) := ⟨_, rfl⟩
  have HS := hid_of hS
  rw [← hS] at hT
  have HT := hid_of hT
  clear h hT hlt
  go_enter Tryz.func59, Tryz.ntmps59
  go_wp2_with fail
  refine (psamps_any w b rv l p0 1 HR.out HLT.out (by decide) _ rfl S HS.out).mono ?_
  intro e w1 hg
  cases S with
  | none =>
    obtain ⟨x, rfl, hk1⟩ := hg
    have HK1 := hid_of hk1
    have HN : Hid (T = none) := HT.out
    clear hk1 hS
    go_wp2_with fail
    go_ret2
    rw [HN.out]
    exact ⟨_, rfl, HK1.out⟩
  | some q =>
    have hq1 := sampsT_len _ _ _ hS.symm
    obtain ⟨qs, qr⟩ := q
    simp only at hq1
    obtain ⟨x0, rfl⟩ : ∃ x, qs = [x] := List.length_eq_one_iff.1 hq1
    obtain ⟨a1, c1, p1, rfl, ho1, hr1, hqr, hk1⟩ := hg
    simp only at ho1 hqr
    have HN : Hid (T = some (List.replicate n x0, left l p1)) := by show _ = _; rw [HT.out, hqr]; rfl
    have HO1 := hid_of ho1.at
    have HR1 := hid_of hr1
    have HK1 := hid_of hk1
    have hs1 : w.heap.size ≤ w1.heap.size := hk1.size
    clear ho1 hr1 hk1 hqr hq1 hS HS HT
    obtain ⟨TT, hTT⟩ : ∃ TT, TT = List.replicate n x0 := ⟨_, rfl⟩
    have HTL : Hid (TT.length = n) := by show _ = _; rw [hTT]; simp
    have HTG : Hid (∀ j, j < n → TT[j]? = some x0) := fun j hj => by rw [hTT]; simp [hj]
    rw [← hTT] at HN
    clear hTT
    go_wp2_with (at_make; go_must (refine wpList_make_full _ rfl _ _ 22 rfl w1.heap.size 3 i0 (.int .i64 0) 1 Tryz.underlying22 hi hz0 hz1 _ _ _ _ n rfl rfl rfl rfl (by rw [hz2]; omega) (by unfold maxLen; omega) (Nat.le_refl _) ?_))
    intro w2 hown hgr
    have HB2 : Hid (Below w1.heap.size w1 w2) := (Below.refl _ _).grown hgr (Nat.le_refl _) (fun k hk => by cases hk)
    have HO2 : Hid (OwnInts w2 w1.heap.size (.slice (some ⟨w1.heap.size, 0, none⟩) n n) (filled TT n 0)) := by
      show World.ownsRow _ _ _ _ _ _ _
      rw [filled_zero]
      have e := madeI n
      rw [Nat.mul_one] at e
      rw [← e, List.length_replicate]; exact hown
    obtain ⟨g, hg⟩ : ∃ g, g = w1.heap.size := ⟨_, rfl⟩
    have HGE : Hid (g = w1.heap.size) := hg
    rw [← hg] at HO2 ⊢
    clear hown hgr hg
    go_wp2_with fail
    go_loopw [21] (fun i wr => ∃ j : Nat, j ≤ n ∧ i = .int .i64 (j : Int) ∧ Hid (OwnInts wr g (.slice (some ⟨g, 0, none⟩) n n) (filled TT n j)) ∧ Hid (Below w1.heap.size w1 wr)) (fun i _ => n - (intOf i).toNat)
    case atStart => exact ⟨0, Nat.zero_le _, rfl, HO2.out, HB2.out⟩
    case round =>
      obtain ⟨j, hj, rfl, ho, hb⟩ := hrel
      by_cases hjn : j < n
      · obtain ⟨b1, o1, rfl, hc1⟩ := HO1.out.mono hb.out 0 x0 rfl
        rw [Nat.add_zero] at hc1
        obtain ⟨hrc, hrf⟩ := owni_cell ho.out (filled_get HTL.out hjn)
        have HTJ := hid_of (HTG.out j hjn)
        go_wp2_with fail
        refine ⟨⟨j + 1, by omega, by go_num, ?_, hb.out.setCell (by show _ ≤ g; rw [HGE.out]; exact Nat.le_refl _) _⟩, by (simp [intOf]) <;> omega⟩
        show OwnInts _ _ _ _
        rw [← filled_set HTL.out HTJ.out]
        exact ho.out.set j _ hjn
      · have e : j = n := by omega
        have HF : Hid (OwnInts wr w.heap.size (.slice (some ⟨g, 0, none⟩) TT.length n) TT) := by
          have h1 := ho.out
          rw [e, filled_end HTL.out] at h1
          show OwnInts _ _ _ _
          rw [HTL.out]
          exact h1.base (by rw [HGE.out]; exact hs1)
        have HRR : Hid (RdAt wr b rv l p1) := HR1.out.below hb.out
        have HKK : Hid (Kept (fun i => i = b) w wr) := HK1.out.trans (Kept.of_below hb.out)
        subst e
        clear ho
        go_wp2_with fail
        go_ret2
        rw [HN.out]
        exact ⟨some ⟨g, 0, none⟩, j, p1, by show _ = Ending.returned (.tuple #[.slice _ TT.length _, _]); rw [HTL.out]; rfl, HF.out, HRR.out, rfl, HKK.out⟩

set_option maxRecDepth 100000 in
set_option maxHeartbeats 4000000 in
theorem pfixT_any (w : World) (b : Nat) (rv : Value) (l : List Nat) (p0 n o : Nat) (h : RdAt w b rv l p0) (hlt : ∀ i, rv.ownBlock = some i → i < w.heap.size) (hn : n ≤ 64) (ho4 : o ≤ 4) (T : Option (List Int × List Bool))
    (hT : T = if n < o then none else (sampsT o (left l p0)).bind fun q => (resT (n - o) q.2).bind fun r => if (restOut q.1 r.1).2 = 0 then some ((restOut q.1 r.1).1, r.2) else none) :
    Calls Tryz.prog 61 #[.pointer (some ⟨b, 0, none⟩), .int .i64 (n : Int), .int .i64 (o : Int)] w fun e w' => TakeR w w' b rv l T e := by
  have HR := hid_of h
  have HLT := hid_of hlt
  have HBL := hid_of h.lt
  by_cases hno : n < o
  · rw [if_pos hno] at hT
    have HN := hid_of hT
    clear h hlt hT
    go_enter Tryz.func61, Tryz.ntmps61
    go_wp2_with fail
    go_ret2
    rw [HN.out]
    exact ⟨_, rfl, Kept.refl _ _⟩
  rw [if_neg hno] at hT
  obtain ⟨S, hS⟩ : ∃ S, S = sampsT o (left l p0) := ⟨_, rfl⟩
  have HS := hid_of hS
  rw [← hS] at hT
  obtain ⟨m, hm⟩ : ∃ m, m = n - o := ⟨_, rfl⟩
  have hmI : (n : Int) - (o : Int) = (m : Int) := by omega
  rw [← hm] at hT
  have HT := hid_of hT
  have hm64 : m ≤ 64 := by omega
  clear h hT hlt hm
  go_enter Tryz.func61, Tryz.ntmps61
  go_wp2_with fail
  refine (psamps_any w b rv l p0 o HR.out HLT.out (by omega) _ rfl S HS.out).mono ?_
  intro e w1 hg
  cases S with
  | none =>
    obtain ⟨x, rfl, hk1⟩ := hg
    have HK1 := hid_of hk1
    have HN : Hid (T = none) := HT.out
    clear hk1 hS
    go_wp2_with fail
    go_ret2
    rw [HN.out]
    exact ⟨_, rfl, HK1.out⟩
  | some q =>
    have hq1 := sampsT_len _ _ _ hS.symm
    obtain ⟨warm, qr⟩ := q
    simp only at hq1
    obtain ⟨a1, c1, p1, rfl, ho1, hr1, hqr, hk1⟩ := hg
    simp only at ho1 hqr
    have HO1 := hid_of ho1
    have HR1 := hid_of hr1
    have HK1 := hid_of hk1
    have hs1 : w.heap.size ≤ w1.heap.size := hk1.size
    have HLT1 : Hid (∀ i, rv.ownBlock = some i → i < w1.heap.size) := fun i hi => Nat.lt_of_lt_of_le (HLT.out i hi) hs1
    have hwl : warm.length ≤ 4 := by omega
    obtain ⟨Q, hQ⟩ : ∃ Q, Q = resT m (left l p1) := ⟨_, rfl⟩
    have HQ := hid_of hQ
    have HT2 : Hid (T = Q.bind fun r => if (restOut warm r.1).2 = 0 then some ((restOut warm r.1).1, r.2) else none) := by
      show _ = _
      rw [HT.out, hqr, hQ]
      rfl
    clear ho1 hr1 hk1 hqr hq1 hS HS HT
    go_wp2_with fail
    refine (presT_any w1 b rv l p1 m HR1.out HLT1.out (by omega) Q HQ.out).mono ?_
    intro e w2 hg
    cases Q with
    | none =>
      obtain ⟨x, rfl, hk2⟩ := hg
      have HK2 : Hid (Kept (fun i => i = b) w w2) := HK1.out.trans hk2
      have HN : Hid (T = none) := HT2.out
      clear hk2 hQ
      go_wp2_with fail
      go_ret2
      rw [HN.out]
      exact ⟨_, rfl, HK2.out⟩
    | some r =>
      obtain ⟨hrI, hrL⟩ := resT_i64 hQ.symm
      obtain ⟨res, rr⟩ := r
      simp only at hrI hrL
      obtain ⟨a2, c2, p2, rfl, ho2, hr2, hrr, hk2⟩ := hg
      simp only at ho2 hrr
      have HW2 : Hid (Ns w2 a1 c1 warm) := own_ns (own_keep HO1.out hk2 HBL.out)
      have HRS2 : Hid (IntsAt w2 a2 res) := ho2.at
      have HR2 := hid_of hr2
      have HK2 : Hid (Kept (fun i => i = b) w w2) := HK1.out.trans hk2
      have HI := hid_of hrI
      have hrl : res.length ≤ 100000 := by omega
      obtain ⟨⟨L, k⟩, hRO⟩ : ∃ R, R = restOut warm res := ⟨_, rfl⟩
      have HRO := hid_of hRO
      have HT3 : Hid (T = if k = 0 then some (L, left l p2) else none) := by
        show _ = _
        rw [HT2.out, hrr]
        simp only [Option.bind_some]
        rw [← hRO]
      clear ho2 hr2 hk2 hrr hrI hrL hQ HQ HT2 hRO
      go_wp2_with fail
      refine (frest_any w2 a1 a2 c1 c2 warm res HW2.out HRS2.out (by omega) hrl HI.out _ HRO.out).mono ?_
      rintro e w3 hg
      obtain ⟨a3, c3, rfl, ho3, -, hb3⟩ := hg.ok
      have HO3 : Hid (OwnInts w3 w.heap.size (.slice a3 L.length c3) L) := ho3.base HK2.out.size
      have HR3 : Hid (RdAt w3 b rv l p2) := HR2.out.below hb3
      have HK3 : Hid (Kept (fun i => i = b) w w3) := HK2.out.trans (Kept.of_below hb3)
      clear hg ho3 hb3
      by_cases hk0 : k = 0
      · subst hk0
        have HN : Hid (T = some (L, left l p2)) := by show _ = _; rw [HT3.out, if_pos rfl]
        go_wp2_with fail
        go_ret2
        rw [HN.out]
        exact ⟨a3, c3, p2, rfl, HO3.out, HR3.out, rfl, HK3.out⟩
      · have hkb : (k == 0) = false := beq_eq_false_iff_ne.2 hk0
        have HN : Hid (T = none) := by show _ = _; rw [HT3.out, if_neg hk0]
        go_wp2_with fail
        go_ret2
        rw [HN.out]
        exact ⟨_, rfl, HK3.out⟩

set_option maxRecDepth 100000 in
set_option maxHeartbeats 4000000 in
theorem plpcT_any (w : World) (b : Nat) (rv : Value) (l : List Nat) (p0 n o : Nat) (h : RdAt w b rv l p0) (hlt : ∀ i, rv.ownBlock = some i → i < w.heap.size) (hn : n ≤ 64) (ho1 : 1 ≤ o) (ho12 : o ≤ 12) (T : Option (List Int × List Bool))
    (hT : T = if n ≤ o then none else (sampsT o (left l p0)).bind fun q => (coefsT o q.2).bind fun c => (resT (n - o) c.2).bind fun r => if (lrestOut q.1 r.1 c.1).2 = 0 then some ((lrestOut q.1 r.1 c.1).1, r.2) else none) :
    Calls Tryz.prog 62 #[.pointer (some ⟨b, 0, none⟩), .int .i64 (n : Int), .int .i64 (o : Int)] w fun e w' => TakeR w w' b rv l T e := by
  have HR := hid_of h
  have HLT := hid_of hlt
  have HBL := hid_of h.lt
  by_cases hno : n ≤ o
  · rw [if_pos hno] at hT
    have HN := hid_of hT
    clear h hlt hT
    go_enter Tryz.func62, Tryz.ntmps62
    go_wp2_with fail
    go_ret2
    rw [HN.out]
    exact ⟨_, rfl, Kept.refl _ _⟩
  rw [if_neg hno] at hT
  obtain ⟨S, hS⟩ : ∃ S, S = sampsT o (left l p0) := ⟨_, rfl⟩
  have HS := hid_of hS
  rw [← hS] at hT
  obtain ⟨m, hm⟩ : ∃ m, m = n - o := ⟨_, rfl⟩
  have hmI : (n : Int) - (o : Int) = (m : Int) := by omega
  rw [← hm] at hT
  have HT := hid_of hT
  have hm64 : m ≤ 64 := by omega
  clear h hT hlt hm
  go_enter Tryz.func62, Tryz.ntmps62
  go_wp2_with fail
  refine (psamps_any w b rv l p0 o HR.out HLT.out (by omega) _ rfl S HS.out).mono ?_
  intro e w1 hg
  cases S with
  | none =>
    obtain ⟨x, rfl, hk1⟩ := hg
    have HK1 := hid_of hk1
    have HN : Hid (T = none) := HT.out
    clear hk1 hS
    go_wp2_with fail
    go_ret2
    rw [HN.out]
    exact ⟨_, rfl, HK1.out⟩
  | some q =>
    have hq1 := sampsT_len _ _ _ hS.symm
    obtain ⟨warm, qr⟩ := q
    simp only at hq1
    obtain ⟨a1, c1, p1, rfl, ho1', hr1, hqr, hk1⟩ := hg
    simp only at ho1' hqr
    have HO1 := hid_of ho1'
    have HR1 := hid_of hr1
    have HK1 := hid_of hk1
    have hs1 : w.heap.size ≤ w1.heap.size := hk1.size
    have HLT1 : Hid (∀ i, rv.ownBlock = some i → i < w1.heap.size) := fun i hi => Nat.lt_of_lt_of_le (HLT.out i hi) hs1
    have HBL1 : Hid (b < w1.heap.size) := Nat.lt_of_lt_of_le HBL.out hs1
    have hwl : warm.length ≤ 12 := by omega
    obtain ⟨C, hC⟩ : ∃ C, C = coefsT o (left l p1) := ⟨_, rfl⟩
    have HC : Hid (C = liftT 16 32768 o (left l p1)) := by show _ = _; rw [hC, liftT_coefs]
    have HT1 : Hid (T = C.bind fun c => (resT m c.2).bind fun r => if (lrestOut warm r.1 c.1).2 = 0 then some ((lrestOut warm r.1 c.1).1, r.2) else none) := by
      show _ = _
      rw [HT.out, hqr, hC]
      rfl
    clear ho1' hr1 hk1 hqr hq1 hS HS HT
    go_wp2_with fail
    refine (plift_any w1 b rv l p1 o 16 32768 _ HR1.out HLT1.out (by omega) (by decide) (by decide) (by decide) rfl C HC.out).mono ?_
    intro e w2 hg
    cases C with
    | none =>
      obtain ⟨x, rfl, hk2⟩ := hg
      have HK2 : Hid (Kept (fun i => i = b) w w2) := HK1.out.trans hk2
      have HN : Hid (T = none) := HT1.out
      clear hk2 hC
      go_wp2_with fail
      go_ret2
      rw [HN.out]
      exact ⟨_, rfl, HK2.out⟩
    | some c =>
      have hcl := coefsT_len _ _ _ hC.symm
      obtain ⟨cs, cr⟩ := c
      simp only at hcl
      obtain ⟨a2, c2, p2, rfl, ho2, hr2, hcr, hk2⟩ := hg
      simp only at ho2 hcr
      have HW2 : Hid (OwnInts w2 w.heap.size (.slice a1 warm.length c1) warm) := own_keep HO1.out hk2 HBL.out
      have HC2 := hid_of ho2
      have HR2 := hid_of hr2
      have HK2 : Hid (Kept (fun i => i = b) w w2) := HK1.out.trans hk2
      have hs2 : w.heap.size ≤ w2.heap.size := HK2.out.size
      have HLT2 : Hid (∀ i, rv.ownBlock = some i → i < w2.heap.size) := fun i hi => Nat.lt_of_lt_of_le (HLT.out i hi) hs2
      have hcl' : cs.length ≤ 12 := by omega
      obtain ⟨Q, hQ⟩ : ∃ Q, Q = resT m (left l p2) := ⟨_, rfl⟩
      have HQ := hid_of hQ
      have HT2 : Hid (T = Q.bind fun r => if (lrestOut warm r.1 cs).2 = 0 then some ((lrestOut warm r.1 cs).1, r.2) else none) := by
        show _ = _
        rw [HT1.out, hcr, hQ]
        rfl
      clear ho2 hr2 hk2 hcr hcl hC HC HT1
      go_wp2_with fail
      refine (presT_any w2 b rv l p2 m HR2.out HLT2.out (by omega) Q HQ.out).mono ?_
      intro e w3 hg
      cases Q with
      | none =>
        obtain ⟨x, rfl, hk3⟩ := hg
        have HK3 : Hid (Kept (fun i => i = b) w w3) := HK2.out.trans hk3
        have HN : Hid (T = none) := HT2.out
        clear hk3 hQ
        go_wp2_with fail
        go_ret2
        rw [HN.out]
        exact ⟨_, rfl, HK3.out⟩
      | some r =>
        obtain ⟨hrI, hrL⟩ := resT_i64 hQ.symm
        obtain ⟨res, rr⟩ := r
        simp only at hrI hrL
        obtain ⟨a3, c3, p3, rfl, ho3, hr3, hrr, hk3⟩ := hg
        simp only at ho3 hrr
        have HW3 : Hid (Ns w3 a1 c1 warm) := own_ns (own_keep HW2.out hk3 HBL.out)
        have HC3 : Hid (IntsAt w3 a2 cs) := (own_keep HC2.out hk3 HBL1.out).at
        have HRS3 : Hid (IntsAt w3 a3 res) := ho3.at
        have HR3 := hid_of hr3
        have HK3 : Hid (Kept (fun i => i = b) w w3) := HK2.out.trans hk3
        have HI := hid_of hrI
        have hrl : res.length ≤ 100000 := by omega
        obtain ⟨⟨L, k⟩, hRO⟩ : ∃ R, R = lrestOut warm res cs := ⟨_, rfl⟩
        have HRO := hid_of hRO
        have HT3 : Hid (T = if k = 0 then some (L, left l p3) else none) := by
          show _ = _
          rw [HT2.out, hrr]
          simp only [Option.bind_some]
          rw [← hRO]
        clear ho3 hr3 hk3 hrr hrI hrL hQ HQ HT2 hRO
        go_wp2_with fail
        refine (lrest_any w3 a1 a3 a2 c1 c3 c2 warm res cs HW3.out HRS3.out HC3.out (by omega) hrl (by omega) HI.out _ HRO.out).mono ?_
        rintro e w4 hg
        obtain ⟨a4, c4, rfl, ho4, -, hb4⟩ := hg.ok
        have HO4 : Hid (OwnInts w4 w.heap.size (.slice a4 L.length c4) L) := ho4.base HK3.out.size
        have HR4 : Hid (RdAt w4 b rv l p3) := HR3.out.below hb4
        have HK4 : Hid (Kept (fun i => i = b) w w4) := HK3.out.trans (Kept.of_below hb4)
        clear hg ho4 hb4
        by_cases hk0 : k = 0
        · subst hk0
          have HN : Hid (T = some (L, left l p3)) := by show _ = _; rw [HT3.out, if_pos rfl]
          go_wp2_with fail
          go_ret2
          rw [HN.out]
          exact ⟨a4, c4, p3, rfl, HO4.out, HR4.out, rfl, HK4.out⟩
        · have hkb : (k == 0) = false := beq_eq_false_iff_ne.2 hk0
          have HN : Hid (T = none) := by show _ = _; rw [HT3.out, if_neg hk0]
          go_wp2_with fail
          go_ret2
          rw [HN.out]
          exact ⟨_, rfl, HK4.out⟩

end Go.Proofs.YtlonnoapbfjomabGreat
