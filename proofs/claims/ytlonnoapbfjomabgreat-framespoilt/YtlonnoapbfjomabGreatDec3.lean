/- frame: taken, Decode. -/
import Derived.Test.YtlonnoapbfjomabGreatDec2
import Derived.Test.YtlonnoapbfjomabGreatReads
namespace Go.Proofs.YtlonnoapbfjomabGreat
set_option linter.unusedVariables false
set_option linter.unusedSimpArgs false
open Go.RowKit Dg

theorem decP_short {l : List Nat} (h : takeD (left l 0) 8 = none ∨ ∃ K, takeD (left l 0) 8 = some (K, left l 8) ∧ takeD (left l 8) 8 = none) : decP (unpack l) = none := by
  rw [← left_zero]
  unfold decP
  rcases h with h | ⟨K, h1, h2⟩
  · rw [h]; rfl
  · rw [h1]
    simp only [Option.bind_some]
    rw [h2]
    rfl
instance (K n : Nat) : Decidable (badHead K n) := by unfold badHead; infer_instance
theorem decP_at {l : List Nat} {K n : Nat} (h1 : takeD (left l 0) 8 = some (K, left l 8)) (h2 : takeD (left l 8) 8 = some (n, left l 16)) : decP (unpack l) = if badHead K n then none else (sampsT (ordOf K n) (left l 16)).bind fun q => bodyT K n q.1 q.2 := by
  rw [← left_zero]
  unfold decP
  rw [h1]
  simp only [Option.bind_some]
  rw [h2]
  rfl

set_option maxRecDepth 100000 in
set_option maxHeartbeats 8000000 in
theorem ptaken_any (w : World) (b : Nat) (rv : Value) (l : List Nat) (h : RdAt w b rv l 0) (hlt : ∀ i, rv.ownBlock = some i → i < w.heap.size) (T : Option (List Int × List Bool)) (hT : T = decP (unpack l)) :
    Calls Tryz.prog 31 #[.pointer (some ⟨b, 0, none⟩)] w fun e w' => TakeR w w' b rv l T e := by
  have HR := hid_of h
  have HLT := hid_of hlt
  have HBL := hid_of h.lt
  clear h hlt
  by_cases hlen : 8 ≤ (left l 0).length
  case neg =>
    obtain ⟨e1, -⟩ := takeD_none (n := 8) hlen
    have HLEN := hid_of hlen
    have HN : Hid (T = none) := by show _ = _; rw [hT]; exact decP_short (.inl e1)
    clear hT e1 hlen
    go_enter Tryz.func31, Tryz.ntmps31
    go_wp2_with fail
    refine (pget_no w b rv l 0 8 HR.out (by decide) HLEN.out _ rfl).mono ?_
    rintro e w1 ⟨rfl, hk1⟩
    have HK1 := hid_of hk1
    clear hk1
    go_wp2_with fail
    go_ret2
    rw [HN.out]
    exact ⟨_, rfl, HK1.out⟩
  obtain ⟨K, hK⟩ : ∃ K, K = num ((left l 0).take 8) := ⟨_, rfl⟩
  have hKb := num_small (left l 0) 8
  obtain ⟨e1, -⟩ := takeD_some (n := 8) (by decide) hlen
  rw [← hK] at e1 hKb
  rw [← left_drop] at e1
  have HLEN := hid_of hlen
  have HK := hid_of hK
  clear hlen hK
  by_cases hlen2 : 8 ≤ (left l 8).length
  case neg =>
    obtain ⟨e2, -⟩ := takeD_none (n := 8) hlen2
    have HLEN2 := hid_of hlen2
    have HN : Hid (T = none) := by show _ = _; rw [hT]; exact decP_short (.inr ⟨K, e1, e2⟩)
    clear hT e1 e2 hlen2
    go_enter Tryz.func31, Tryz.ntmps31
    go_wp2_with fail
    refine (pget_yes w b rv l 0 8 HR.out (by decide) HLEN.out _ rfl K HK.out).mono ?_
    rintro e w1 ⟨rfl, hr1, hk1⟩
    have HR1 := hid_of hr1
    have HK1 := hid_of hk1
    clear hr1 hk1
    go_wp2_with fail
    refine (pget_no w1 b rv l _ 8 HR1.out (by decide) HLEN2.out _ rfl).mono ?_
    rintro e w2 ⟨rfl, hk2⟩
    have HK2 : Hid (Kept (fun i => i = b) w w2) := HK1.out.trans hk2
    clear hk2
    go_wp2_with fail
    go_ret2
    rw [HN.out]
    exact ⟨_, rfl, HK2.out⟩
  obtain ⟨n, hn⟩ : ∃ n, n = num ((left l 8).take 8) := ⟨_, rfl⟩
  have hnb := num_small (left l 8) 8
  obtain ⟨e2, -⟩ := takeD_some (n := 8) (by decide) hlen2
  rw [← hn] at e2 hnb
  rw [← left_drop] at e2
  have HLEN2 := hid_of hlen2
  have HN2 := hid_of hn
  rw [decP_at e1 e2] at hT
  have hKb' : K < 256 := hKb
  have hnb' : n < 256 := hnb
  clear hlen2 hn e1 e2 hKb hnb
  by_cases hc : 1 ≤ n ∧ n ≤ 64
  case neg =>
    have HC : Hid (false = decide (1 ≤ (n : Int) ∧ (n : Int) ≤ 64)) := (decide_eq_false (by omega)).symm
    have HN : Hid (T = none) := by show _ = _; rw [hT, if_pos]; unfold badHead; omega
    clear hT hc
    go_enter Tryz.func31, Tryz.ntmps31
    go_wp2_with fail
    refine (pget_yes w b rv l 0 8 HR.out (by decide) HLEN.out _ rfl K HK.out).mono ?_
    rintro e w1 ⟨rfl, hr1, hk1⟩
    have HR1 := hid_of hr1
    have HK1 := hid_of hk1
    clear hr1 hk1
    go_wp2_with fail
    refine (pget_yes w1 b rv l _ 8 HR1.out (by decide) HLEN2.out _ rfl n HN2.out).mono ?_
    rintro e w2 ⟨rfl, hr2, hk2⟩
    have HK2 : Hid (Kept (fun i => i = b) w w2) := HK1.out.trans hk2
    clear hk2 hr2
    go_wp2_with (go_at_call 25; refine (pcount_any _ _ false HC.out).mono ?_; rintro e w3 ⟨rfl, rfl⟩)
    go_ret2
    rw [HN.out]
    exact ⟨_, rfl, HK2.out⟩
  obtain ⟨hn1, hn64⟩ := hc
  have HC : Hid (true = decide (1 ≤ (n : Int) ∧ (n : Int) ≤ 64)) := (decide_eq_true (by omega)).symm
  have HT := hid_of hT
  clear hT
  go_enter Tryz.func31, Tryz.ntmps31
  go_wp2_with fail
  refine (pget_yes w b rv l 0 8 HR.out (by decide) HLEN.out _ rfl K HK.out).mono ?_
  rintro e w1 ⟨rfl, hr1, hk1⟩
  have HR1 := hid_of hr1
  have HK1 := hid_of hk1
  clear hr1 hk1
  go_wp2_with fail
  refine (pget_yes w1 b rv l _ 8 HR1.out (by decide) HLEN2.out _ rfl n HN2.out).mono ?_
  rintro e w2 ⟨rfl, hr2, hk2⟩
  have HR2 : Hid (RdAt w2 b rv l 16) := hr2
  have HK2 : Hid (Kept (fun i => i = b) w w2) := HK1.out.trans hk2
  have hs2 : w.heap.size ≤ w2.heap.size := HK2.out.size
  have HLT2 : Hid (∀ i, rv.ownBlock = some i → i < w2.heap.size) := fun i hi => Nat.lt_of_lt_of_le (HLT.out i hi) hs2
  clear hr2 hk2
  have fin : ∀ (T' : Option (List Int × List Bool)) (w3 : World) (e : Ending), TakeR w2 w3 b rv l T' e → TakeR w w3 b rv l T' e := by
    intro T' w3 e h
    cases T' with
    | none =>
      obtain ⟨x, he, hk⟩ := h
      exact ⟨x, he, HK2.out.trans hk⟩
    | some q =>
      obtain ⟨a, c, p, he, ho, hr, hq, hk⟩ := h
      exact ⟨a, c, p, he, ho.base hs2, hr, hq, HK2.out.trans hk⟩
  have FIN := hid_of fin
  clear fin HR1 HK1 HLEN HLEN2 HK HN2
  rcases (by omega : K = 0 ∨ K = 1 ∨ (2 ≤ K ∧ K ≤ 6) ∨ (7 ≤ K ∧ K ≤ 18) ∨ 18 < K) with rfl | rfl | ⟨h1, h2⟩ | ⟨h1, h2⟩ | h1
  · have HTT : Hid (T = (sampsT 1 (left l 16)).map fun q => (List.replicate n (q.1.getD 0 0), q.2)) := by
      show _ = _
      rw [HT.out, if_neg (by unfold badHead; simp [ordOf]; omega)]
      have e : ordOf 0 n = 1 := by simp [ordOf]
      rw [e]
      cases sampsT 1 (left l 16) with
      | none => rfl
      | some q => rfl
    clear HT
    go_wp2_with (go_at_call 25; refine (pcount_any _ _ true HC.out).mono ?_; rintro e w3 ⟨rfl, rfl⟩)
    refine (pconstT_any w2 b rv l 16 n HR2.out HLT2.out hn1 (by omega) T HTT.out).mono ?_
    rintro e w3 h3
    have H3 := hid_of (FIN.out _ _ _ h3)
    obtain ⟨x, t, rfl⟩ := h3.form
    clear h3
    go_wp2_with fail
    go_ret2
    exact H3.out
  · have HTT : Hid (T = sampsT n (left l 16)) := by
      show _ = _
      rw [HT.out, if_neg (by unfold badHead; simp [ordOf]; omega)]
      have e : ordOf 1 n = n := by simp [ordOf]
      rw [e]
      cases sampsT n (left l 16) with
      | none => rfl
      | some q => rfl
    clear HT
    go_wp2_with (go_at_call 25; refine (pcount_any _ _ true HC.out).mono ?_; rintro e w3 ⟨rfl, rfl⟩)
    refine (psamps_any w2 b rv l 16 n HR2.out HLT2.out (by omega) _ rfl T HTT.out).mono ?_
    rintro e w3 h3
    have H3 := hid_of (FIN.out _ _ _ h3)
    obtain ⟨x, t, rfl⟩ := h3.form
    clear h3
    go_wp2_with fail
    go_ret2
    exact H3.out
  · obtain ⟨o, ho⟩ : ∃ o : Nat, (o : Int) = (K : Int) - 2 := ⟨K - 2, by omega⟩
    have HO := hid_of ho
    have hkb0 : ((K : Int) == 0) = false := beq_eq_false_iff_ne.2 (by omega)
    have hkb1 : ((K : Int) == 1) = false := beq_eq_false_iff_ne.2 (by omega)
    have ho4 : o ≤ 4 := by omega
    have HTT : Hid (T = if n < o then none else (sampsT o (left l 16)).bind fun q => (resT (n - o) q.2).bind fun r => if (restOut q.1 r.1).2 = 0 then some ((restOut q.1 r.1).1, r.2) else none) := by
      show _ = _
      have eo : ordOf K n = o := by unfold ordOf; rw [if_neg (by omega), if_neg (by omega), if_pos (by omega)]; omega
      rw [HT.out]
      by_cases hno : n < o
      · rw [if_pos hno, if_pos (by unfold badHead; omega)]
      · rw [if_neg hno, if_neg (by unfold badHead; omega), eo]
        cases sampsT o (left l 16) with
        | none => rfl
        | some q =>
          simp only [Option.bind_some]
          unfold bodyT
          rw [if_neg (by omega), if_neg (by omega), if_pos (by omega), eo]
    clear HT ho
    go_wp2_with first
      | (go_at_call 25; refine (pcount_any _ _ true HC.out).mono ?_; rintro e w3 ⟨rfl, rfl⟩)
      | (go_at_call 54; refine (pfix_any _ _ (by omega) (by omega) _ HO.out).mono ?_; rintro e w4 ⟨rfl, rfl⟩)
    refine (pfixT_any w2 b rv l 16 n o HR2.out HLT2.out hn64 ho4 T HTT.out).mono ?_
    rintro e w3 h3
    have H3 := hid_of (FIN.out _ _ _ h3)
    obtain ⟨x, t, rfl⟩ := h3.form
    clear h3
    go_wp2_with fail
    go_ret2
    exact H3.out
  · obtain ⟨o, ho⟩ : ∃ o : Nat, (o : Int) = (K : Int) - 6 := ⟨K - 6, by omega⟩
    have HO := hid_of ho
    have hkb0 : ((K : Int) == 0) = false := beq_eq_false_iff_ne.2 (by omega)
    have hkb1 : ((K : Int) == 1) = false := beq_eq_false_iff_ne.2 (by omega)
    have ho1 : 1 ≤ o := by omega
    have ho12 : o ≤ 12 := by omega
    have HTT : Hid (T = if n ≤ o then none else (sampsT o (left l 16)).bind fun q => (coefsT o q.2).bind fun c => (resT (n - o) c.2).bind fun r => if (lrestOut q.1 r.1 c.1).2 = 0 then some ((lrestOut q.1 r.1 c.1).1, r.2) else none) := by
      show _ = _
      have eo : ordOf K n = o := by unfold ordOf; rw [if_neg (by omega), if_neg (by omega), if_neg (by omega)]; omega
      rw [HT.out]
      by_cases hno : n ≤ o
      · rw [if_pos hno, if_pos (by unfold badHead; omega)]
      · rw [if_neg hno, if_neg (by unfold badHead; omega), eo]
        cases sampsT o (left l 16) with
        | none => rfl
        | some q =>
          simp only [Option.bind_some]
          unfold bodyT
          rw [if_neg (by omega), if_neg (by omega), if_neg (by omega), eo]
    clear HT ho
    go_wp2_with first
      | (go_at_call 25; refine (pcount_any _ _ true HC.out).mono ?_; rintro e w3 ⟨rfl, rfl⟩)
      | (go_at_call 56; refine (plpc_any _ _ (by omega) (by omega) _ HO.out).mono ?_; rintro e w4 ⟨rfl, rfl⟩)
    refine (plpcT_any w2 b rv l 16 n o HR2.out HLT2.out hn64 ho1 ho12 T HTT.out).mono ?_
    rintro e w3 h3
    have H3 := hid_of (FIN.out _ _ _ h3)
    obtain ⟨x, t, rfl⟩ := h3.form
    clear h3
    go_wp2_with fail
    go_ret2
    exact H3.out
  · have hkb0 : ((K : Int) == 0) = false := beq_eq_false_iff_ne.2 (by omega)
    have hkb1 : ((K : Int) == 1) = false := beq_eq_false_iff_ne.2 (by omega)
    have HN : Hid (T = none) := by show _ = _; rw [HT.out, if_pos]; unfold badHead; omega
    clear HT
    go_wp2_with (go_at_call 25; refine (pcount_any _ _ true HC.out).mono ?_; rintro e w3 ⟨rfl, rfl⟩)
    go_ret2
    rw [HN.out]
    exact ⟨_, rfl, HK2.out⟩

set_option maxRecDepth 100000 in
set_option maxHeartbeats 4000000 in
theorem fdec_any (w : World) (v : Value) (l : List Nat) (h : SlAt w v l) (hl : l.length ≤ 1000000) (hby : ∀ x ∈ l, x < 256) (R : List Int × Int) (hR : R = decOut 2 l) :
    Calls Tryz.prog 16 #[v] w fun e w' => Gave w w' R e := by
  have HL := hid_of h
  have HBY := hid_of hby
  rw [decOut_of, decD_P] at hR
  obtain ⟨T, hT⟩ : ∃ T, T = decP (unpack l) := ⟨_, rfl⟩
  rw [← hT] at hR
  have HT := hid_of hT
  have HRR := hid_of hR
  clear h hby hR hT
  go_enter Tryz.func16, Tryz.ntmps16
  go_wp2_with fail
  refine (newReader_any w v l HL.out (by omega) HBY.out).mono ?_
  rintro e w1 ⟨b, rfl, hbw, hr1, hb1⟩
  have hrv : ∀ i, (Value.slice (some ⟨w.heap.size, 0, none⟩) l.length l.length).ownBlock = some i → i < w1.heap.size := by
    intro i hi
    have h1 := hr1.lt
    simp [Value.ownBlock] at hi
    omega
  generalize hrvE : Value.slice (some ⟨w.heap.size, 0, none⟩) l.length l.length = rv at hr1 hrv
  have HR1 := hid_of hr1
  have HB1 := hid_of hb1
  have HLT := hid_of hrv
  have HBW := hid_of hbw
  clear hr1 hb1 hrv hbw hrvE
  go_wp2_with fail
  refine (ptaken_any w1 b rv l HR1.out HLT.out T HT.out).mono ?_
  intro e w2 hg
  have key : Kept (fun i => i = b) w1 w2 → Below w.heap.size w w2 := fun hk => hk.below_of HB1.out (fun k hf => by have := HBW.out; omega) HB1.out.size
  cases T with
  | none =>
    obtain ⟨x, rfl, hk2⟩ := hg
    have HB2 := hid_of (key hk2)
    have HN : Hid (R = ([], 2)) := HRR.out
    clear hk2 key
    go_wp2_with fail
    go_ret2
    exact Gave.none HN.out HB2.out
  | some q =>
    obtain ⟨xs, qr⟩ := q
    obtain ⟨a2, c2, p2, rfl, ho2, hr2, hqr, hk2⟩ := hg
    simp only at ho2 hqr
    have HB2 := hid_of (key hk2)
    have HO2 : Hid (OwnInts w2 w.heap.size (.slice a2 xs.length c2) xs) := ho2.base HB1.out.size
    have HR2 := hid_of hr2
    obtain ⟨q, hq⟩ : ∃ q, q = noOnes (left l p2) := ⟨_, rfl⟩
    have HQ := hid_of hq
    have HR3 : Hid (R = outOf (if q = true then some xs else none)) := by
      show _ = _
      rw [HRR.out, hqr, hq]
      rfl
    clear ho2 hr2 hqr hk2 key hq HRR
    cases q with
    | true =>
      go_wp2_with (go_at_call 32; refine (rest_all' w2 b rv l p2 HR2.out true HQ.out).mono ?_; rintro e w3 ⟨rfl, rfl⟩)
      go_ret2
      rw [HR3.out]
      exact ⟨_, rfl, HO2.out, HB2.out⟩
    | false =>
      go_wp2_with (go_at_call 32; refine (rest_all' w2 b rv l p2 HR2.out false HQ.out).mono ?_; rintro e w3 ⟨rfl, rfl⟩)
      go_ret2
      exact Gave.none HR3.out HB2.out

end Go.Proofs.YtlonnoapbfjomabGreat
