/- The document's own samples and residuals out of digits. -/
import Derived.Test.YtlonnoapbfjomabGreatFrm4
import Derived.Test.YtlonnoapbfjomabGreatRice8
namespace Go.Proofs.YtlonnoapbfjomabGreat
set_option linter.unusedVariables false
set_option linter.unusedSimpArgs false
open Go.RowKit Dg

theorem below_keep {B : Nat} {w w' : World} (h : Below B w w') : Kept (fun k => B ≤ k) w w' := ⟨h.os, h.tape, h.output, h.size, fun k _ hf => h.block k (by omega)⟩
theorem BtAt.under {B : Nat} {w w' : World} {v : Value} {ds : List Bool} (h : BtAt w v ds) (hb : Below B w w') (hv : ∀ k, v.ownBlock = some k → k < B) : BtAt w' v ds :=
  h.kept (below_keep hb) (fun k hk => by have := hv k hk; omega)
theorem takeD_some {ds : List Bool} {n : Nat} (hn : n ≤ 62) (h : n ≤ ds.length) : takeD ds n = some (num (ds.take n), ds.drop n) ∧ getOut ds (n : Int) = (num (ds.take n), n, true) := by
  refine ⟨by unfold takeD; rw [if_pos h], ?_⟩
  unfold getOut
  rw [if_pos ⟨by omega, by omega, by omega⟩, Int.toNat_natCast]
theorem takeD_none {ds : List Bool} {n : Nat} (h : ¬ n ≤ ds.length) : takeD ds n = none ∧ getOut ds (n : Int) = (0, 0, false) := by
  refine ⟨by unfold takeD; rw [if_neg h], ?_⟩
  unfold getOut
  rw [if_neg (fun h1 => h (by omega))]
theorem num_small (ds : List Bool) (n : Nat) : num (ds.take n) < 2 ^ n := by
  have h1 := num_lt (ds.take n)
  have h2 : (2 : Nat) ^ (ds.take n).length ≤ 2 ^ n := Nat.pow_le_pow_right (by decide) (by simp; omega)
  omega
/-- What samples, takeResiduals answer. -/
def TookT (w w' : World) (l : List Nat) (v0 : Value) (T : Option (List Int × List Bool)) (e : Ending) : Prop :=
  match T with
  | none => ∃ x v, e = .returned (.tuple #[x, v, .bool false]) ∧ Below w.heap.size w w'
  | some q => ∃ x v p, e = .returned (.tuple #[x, v, .bool true]) ∧ OwnInts w' w.heap.size x q.1 ∧ BtAt w' v (left l p) ∧ q.2 = left l p ∧ (∀ k, v.ownBlock = some k → v0.ownBlock = some k) ∧ Below w.heap.size w w'

set_option maxRecDepth 100000 in
set_option maxHeartbeats 4000000 in
theorem rsamples_any (w : World) (v : Value) (l : List Nat) (p0 n : Nat) (h : BtAt w v (left l p0)) (hn : n ≤ 1000) (T : Option (List Int × List Bool)) (hT : T = sampsT n (left l p0)) :
    Calls Tryz.prog 35 #[v, .int .i64 (n : Int)] w fun e w' => TookT w w' l v T e := by
  obtain ⟨i0, hi, hz0, hz1, hz2⟩ := info_parts Tryz.info3
  have HB := hid_of h
  have HT : Hid (T = (sampsT (n - 0) (left l p0)).map fun q => ([] ++ q.1, q.2)) := by show _ = _; rw [hT, Nat.sub_zero]; cases sampsT n (left l p0) <;> rfl
  have HLT := hid_of h.lt
  clear h hT
  go_enter Tryz.func35, Tryz.ntmps35
  go_wp2_with fail
  go_loopw [0, 7, 8] (fun b o i wr => ∃ (k p : Nat) (out : List Int), k ≤ n ∧ i = .int .i64 (k : Int) ∧ out.length ≤ 1000000 ∧ Hid (out.length = k) ∧ Hid (T = (sampsT (n - k) (left l p)).map fun q => (out ++ q.1, q.2)) ∧ Hid (OwnInts wr w.heap.size o out) ∧ Hid (BtAt wr b (left l p)) ∧ Hid (∀ k, b.ownBlock = some k → v.ownBlock = some k) ∧ Hid (Below w.heap.size w wr)) (fun _ _ i _ => n - (intOf i).toNat)
  case atStart => exact ⟨0, p0, [], Nat.zero_le _, rfl, by decide, rfl, HT.out, OwnInts.nil _ _, HB.out, fun _ h => h, Below.refl _ _⟩
  case round =>
    obtain ⟨k, p, out, hk, rfl, hol, HOL, ht, ho, hbt, hvv, hb⟩ := hrel
    have hsz : w.heap.size ≤ wr.heap.size := hb.out.size
    by_cases hkn : k < n
    · have ek : n - k = (n - (k + 1)) + 1 := by omega
      by_cases hlen : 24 ≤ (left l p).length
      · obtain ⟨e1, e2⟩ := takeD_some (n := 24) (by decide) hlen
        obtain ⟨z, hz⟩ : ∃ z, z = num ((left l p).take 24) := ⟨_, rfl⟩
        have hzb := num_small (left l p) 24
        rw [← hz] at e1 e2 hzb
        have hzb' : z < 16777216 := by omega
        have HG : Hid (getOut (left l p) 24 = (z, 24, true)) := e2
        obtain ⟨y, hy2⟩ : ∃ y, (z : Int) - 8388608 = y := ⟨_, rfl⟩
        have hy1 : (z : Int) + -8388608 = y := by omega
        have HNX : Hid (T = (sampsT (n - (k + 1)) (left l (p + 24))).map fun q => ((out ++ [y]) ++ q.1, q.2)) := by
          show _ = _
          rw [ht.out, ek, sampsT, e1, left_drop, ← hy2]
          simp only [Option.bind_some]
          cases sampsT (n - (k + 1)) ((left l p).drop 24) <;> simp
        clear e1 e2 hz hzb hlen
        go_wp2_with first
          | (go_at_call 34; refine (rget_all' wr _ l p 24 hbt.out _ HG.out).mono ?_; rintro e w1 ⟨v1, rfl, hb1, hv1, m1, rfl⟩; have HB1 := hid_of hb1; have HV1 := hid_of hv1; clear hb1 hv1)
          | (at_builtin; go_must (refine wpList_append_int (wr.drewN m1) rfl (.tmp 26) (.tmp 29) 22 rfl w.heap.size i0 Tryz.underlying22 hi hz0 hz1 hz2 u7 out (by rfl) (ho.out.drewN m1) y (by rfl) hol hsz ?_))
        intro v' w' g1 g2
        have HBB : Hid (Below w.heap.size w w') := (below_drewN hb.out m1).trans g2.out
        have HBT' : Hid (BtAt w' v1 (left l (p + 24))) := HB1.out.under g2.out (fun k hk => HLT.out k (hvv.out k (HV1.out k hk)))
        have HVV' : Hid (∀ k, v1.ownBlock = some k → v.ownBlock = some k) := fun k hk => hvv.out k (HV1.out k hk)
        have HOL' : Hid ((out ++ [y]).length = k + 1) := by show _ = _; rw [List.length_append, HOL.out]; rfl
        have hol' : (out ++ [y]).length ≤ 1000000 := by rw [HOL'.out]; omega
        clear g2
        go_wp2_with fail
        exact ⟨⟨k + 1, p + 24, out ++ [y], by omega, by go_num, hol', HOL', HNX, g1, HBT', HVV', HBB⟩, by (simp [intOf]) <;> omega⟩
      · obtain ⟨e1, e2⟩ := takeD_none (n := 24) hlen
        have HG : Hid (getOut (left l p) 24 = (0, 0, false)) := e2
        have HN : Hid (T = none) := by
          show _ = _
          rw [ht.out, ek, sampsT, e1]
          rfl
        clear e1 e2 hlen
        go_wp2_with (go_at_call 34; refine (rget_all' wr _ l p 24 hbt.out _ HG.out).mono ?_; rintro e w1 ⟨v1, rfl, hb1, hv1, m1, rfl⟩; clear hb1 hv1)
        go_ret3
        rw [HN.out]
        exact ⟨_, _, rfl, below_drewN hb.out m1⟩
    · have e : k = n := by omega
      subst e
      have HS : Hid (T = some (out, left l p)) := by
        show _ = _
        rw [ht.out, Nat.sub_self]
        simp [sampsT]
      clear ht
      go_wp2_with fail
      go_ret3
      rw [HS.out]
      exact ⟨_, _, p, rfl, ho.out, hbt.out, rfl, hvv.out, hb.out⟩

set_option maxRecDepth 100000 in
set_option maxHeartbeats 4000000 in
theorem rtakeres_any (w : World) (v : Value) (l : List Nat) (p0 n : Nat) (h : BtAt w v (left l p0)) (hn : n ≤ 1000) (T : Option (List Int × List Bool)) (hT : T = resT n (left l p0)) :
    Calls Tryz.prog 36 #[v, .int .i64 (n : Int)] w fun e w' => TookT w w' l v T e := by
  obtain ⟨i0, hi, hz0, hz1, hz2⟩ := info_parts Tryz.info3
  have HB := hid_of h
  have HLT := hid_of h.lt
  unfold resT at hT
  by_cases hlen : 5 ≤ (left l p0).length
  case neg =>
    obtain ⟨e1, e2⟩ := takeD_none (n := 5) hlen
    have HG : Hid (getOut (left l p0) 5 = (0, 0, false)) := e2
    have HN : Hid (T = none) := by show _ = _; rw [hT, e1]; rfl
    clear h hT e1 e2 hlen
    go_enter Tryz.func36, Tryz.ntmps36
    go_wp2_with (go_at_call 34; refine (rget_all' w _ l p0 5 HB.out _ HG.out).mono ?_; rintro e w1 ⟨v1, rfl, hb1, hv1, m1, rfl⟩; clear hb1 hv1)
    go_ret3
    rw [HN.out]
    exact ⟨_, _, rfl, below_drewN (Below.refl _ _) m1⟩
  obtain ⟨e1, e2⟩ := takeD_some (n := 5) (by decide) hlen
  obtain ⟨K, hK⟩ : ∃ K, K = num ((left l p0).take 5) := ⟨_, rfl⟩
  have hKb := num_small (left l p0) 5
  rw [← hK] at e1 e2 hKb
  have HG : Hid (getOut (left l p0) 5 = (K, 5, true)) := e2
  rw [e1] at hT
  simp only [Option.bind_some] at hT
  rw [← left_drop] at hT
  by_cases hK24 : 24 < K
  · have HN : Hid (T = none) := by show _ = _; rw [hT, if_pos hK24]
    clear h hT e1 e2 hlen hK
    go_enter Tryz.func36, Tryz.ntmps36
    go_wp2_with (go_at_call 34; refine (rget_all' w _ l p0 5 HB.out _ HG.out).mono ?_; rintro e w1 ⟨v1, rfl, hb1, hv1, m1, rfl⟩; clear hb1 hv1)
    go_ret3
    rw [HN.out]
    exact ⟨_, _, rfl, below_drewN (Below.refl _ _) m1⟩
  rw [if_neg hK24] at hT
  have HT : Hid (T = (ricesT K (n - 0) (left l (p0 + 5))).map fun q => ([] ++ q.1, q.2)) := by show _ = _; rw [hT, Nat.sub_zero]; cases ricesT K n (left l (p0 + 5)) <;> rfl
  have hK24' : K ≤ 24 := by omega
  clear h hT e1 e2 hlen hK hK24 hKb
  go_enter Tryz.func36, Tryz.ntmps36
  go_wp2_with (go_at_call 34; refine (rget_all' w _ l p0 5 HB.out _ HG.out).mono ?_; rintro e w1 ⟨v1, rfl, hb1, hv1, m1, rfl⟩; have HB1 := hid_of hb1; have HV1 := hid_of hv1; clear hb1 hv1)
  go_loopw [0, 9, 10] (fun b o i wr => ∃ (k p : Nat) (out : List Int), k ≤ n ∧ i = .int .i64 (k : Int) ∧ out.length ≤ 1000000 ∧ Hid (out.length = k) ∧ Hid (T = (ricesT K (n - k) (left l p)).map fun q => (out ++ q.1, q.2)) ∧ Hid (OwnInts wr w.heap.size o out) ∧ Hid (BtAt wr b (left l p)) ∧ Hid (∀ k, b.ownBlock = some k → v.ownBlock = some k) ∧ Hid (Below w.heap.size w wr)) (fun _ _ i _ => n - (intOf i).toNat)
  case atStart => exact ⟨0, p0 + 5, [], Nat.zero_le _, rfl, by decide, rfl, HT.out, OwnInts.nil _ _, HB1.out, HV1.out, below_drewN (Below.refl _ _) m1⟩
  case round =>
    obtain ⟨k, p, out, hk, rfl, hol, HOL, ht, ho, hbt, hvv, hb⟩ := hrel
    have hsz : w.heap.size ≤ wr.heap.size := hb.out.size
    by_cases hkn : k < n
    · have ek : n - k = (n - (k + 1)) + 1 := by omega
      obtain ⟨⟨z, u, ok⟩, hO⟩ : ∃ O, riceOut (left l p) (K : Int) = O := ⟨_, rfl⟩
      have HO := hid_of hO
      cases ok with
      | true =>
        obtain ⟨y, hy⟩ : ∃ y, y = zagOf (z : Int) := ⟨_, rfl⟩
        have HY : Hid (zagOf (z : Int) = y) := hy.symm
        have HNX : Hid (T = (ricesT K (n - (k + 1)) (left l (p + u))).map fun q => ((out ++ [y]) ++ q.1, q.2)) := by
          show _ = _
          rw [ht.out, ek, ricesT, hO, left_drop, hy]
          simp only [if_true]
          cases ricesT K (n - (k + 1)) ((left l p).drop u) <;> simp
        clear hO hy
        go_wp2_with first
          | (go_at_call 64; refine (rtake_all wr _ l p _ hbt.out _ HO.out).mono ?_; rintro e w2 ⟨v2, rfl, hb2, hv2, m2, rfl⟩; have HB2 := hid_of hb2; have HV2 := hid_of hv2; clear hb2 hv2)
          | (go_at_call 65; refine (rzag_any _ _).mono ?_; rw [HY.out]; rintro e w3 ⟨rfl, rfl⟩)
          | (at_builtin; go_must (refine wpList_append_int (wr.drewN m2) rfl (.tmp 42) (.tmp 45) 22 rfl w.heap.size i0 Tryz.underlying22 hi hz0 hz1 hz2 u9 out (by rfl) (ho.out.drewN m2) y (by rfl) hol hsz ?_))
        intro v' w' g1 g2
        have HBB : Hid (Below w.heap.size w w') := (below_drewN hb.out m2).trans g2.out
        have HBT' : Hid (BtAt w' v2 (left l (p + u))) := HB2.out.under g2.out (fun k hk => HLT.out k (hvv.out k (HV2.out k hk)))
        have HVV' : Hid (∀ k, v2.ownBlock = some k → v.ownBlock = some k) := fun k hk => hvv.out k (HV2.out k hk)
        have HOL' : Hid ((out ++ [y]).length = k + 1) := by show _ = _; rw [List.length_append, HOL.out]; rfl
        have hol' : (out ++ [y]).length ≤ 1000000 := by rw [HOL'.out]; omega
        clear g2
        go_wp2_with fail
        exact ⟨⟨k + 1, p + u, out ++ [y], by omega, by go_num, hol', HOL', HNX, g1, HBT', HVV', HBB⟩, by (simp [intOf]) <;> omega⟩
      | false =>
        have HN : Hid (T = none) := by
          show _ = _
          rw [ht.out, ek, ricesT, hO]
          rfl
        clear hO
        go_wp2_with (go_at_call 64; refine (rtake_all wr _ l p _ hbt.out _ HO.out).mono ?_; rintro e w2 ⟨v2, rfl, hb2, hv2, m2, rfl⟩; clear hb2 hv2)
        go_ret3
        rw [HN.out]
        exact ⟨_, _, rfl, below_drewN hb.out m2⟩
    · have e : k = n := by omega
      subst e
      have HS : Hid (T = some (out, left l p)) := by
        show _ = _
        rw [ht.out, Nat.sub_self]
        simp [ricesT]
      clear ht
      go_wp2_with fail
      go_ret3
      rw [HS.out]
      exact ⟨_, _, p, rfl, ho.out, hbt.out, rfl, hvv.out, hb.out⟩

end Go.Proofs.YtlonnoapbfjomabGreat
