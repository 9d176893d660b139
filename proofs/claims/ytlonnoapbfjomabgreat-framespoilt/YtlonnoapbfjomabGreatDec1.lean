/- frame: numbers, residuals, a constant out of a reader. -/
import Derived.Test.YtlonnoapbfjomabGreatEnc1
import Derived.Test.YtlonnoapbfjomabGreatFrm6
namespace Go.Proofs.YtlonnoapbfjomabGreat
set_option linter.unusedVariables false
set_option linter.unusedSimpArgs false
open Go.RowKit Dg

theorem length_left (l : List Nat) (p : Nat) : (left l p).length = 8 * l.length - p := by simp [left]
theorem pget_no (w : World) (b : Nat) (rv : Value) (l : List Nat) (p n : Nat) (h : RdAt w b rv l p) (hn : n ≤ 62) (hlen : ¬ n ≤ (left l p).length) (I : Int) (hI : I = (n : Int)) :
    Calls Tryz.prog 58 #[.pointer (some ⟨b, 0, none⟩), .int .i64 I] w fun e w' => e = .returned (.tuple #[.int .i64 0, .bool false]) ∧ Kept (fun i => i = b) w w' := by
  subst hI
  rw [length_left] at hlen
  have := h.le
  refine (get_few w b rv l p (n : Int) h (by omega) (by omega) (by omega)).mono ?_
  rintro e w' ⟨rfl, rfl⟩
  exact ⟨rfl, (Kept.refl _ _).drew⟩
theorem pget_yes (w : World) (b : Nat) (rv : Value) (l : List Nat) (p n : Nat) (h : RdAt w b rv l p) (hn : n ≤ 62) (hlen : n ≤ (left l p).length) (I : Int) (hI : I = (n : Int)) (z : Nat) (hz : z = num ((left l p).take n)) :
    Calls Tryz.prog 58 #[.pointer (some ⟨b, 0, none⟩), .int .i64 I] w fun e w' => e = .returned (.tuple #[.int .i64 (z : Int), .bool true]) ∧ RdAt w' b rv l (p + n) ∧ Kept (fun i => i = b) w w' := by
  rw [length_left] at hlen
  have := h.le
  exact get_at w b rv l p n h hn (by omega) I hI _ (by rw [hz]; rfl)
/-- Samples, coefficients: numbers that were lifted. -/
def liftT (d : Nat) (m : Int) : Nat → List Bool → Option (List Int × List Bool)
  | 0, ds => some ([], ds)
  | n + 1, ds => (takeD ds d).bind fun r => (liftT d m n r.2).map fun q => ((((r.1 : Nat) : Int) - m) :: q.1, q.2)
theorem liftT_samps (n : Nat) (ds : List Bool) : sampsT n ds = liftT 24 8388608 n ds := by
  induction n generalizing ds with
  | zero => rfl
  | succ n ih => simp only [sampsT, liftT, ih]
theorem liftT_coefs (n : Nat) (ds : List Bool) : coefsT n ds = liftT 16 32768 n ds := by
  induction n generalizing ds with
  | zero => rfl
  | succ n ih => simp only [coefsT, liftT, ih]
/-- What a taker answers: numbers of the call's own, and whether there are any. -/
def TakeR (w w' : World) (b : Nat) (rv : Value) (l : List Nat) (T : Option (List Int × List Bool)) (e : Ending) : Prop :=
  match T with
  | none => ∃ x, e = .returned (.tuple #[x, .bool false]) ∧ Kept (fun i => i = b) w w'
  | some q => ∃ a cap p, e = .returned (.tuple #[.slice a q.1.length cap, .bool true]) ∧ OwnInts w' w.heap.size (.slice a q.1.length cap) q.1 ∧ RdAt w' b rv l p ∧ q.2 = left l p ∧ Kept (fun i => i = b) w w'
theorem TakeR.form {w w' : World} {b : Nat} {rv : Value} {l : List Nat} {T : Option (List Int × List Bool)} {e : Ending} (h : TakeR w w' b rv l T e) : ∃ x t, e = .returned (.tuple #[x, .bool t]) := by
  cases T with
  | none => obtain ⟨x, h, -⟩ := h; exact ⟨x, false, h⟩
  | some q => obtain ⟨a, c, p, h, -⟩ := h; exact ⟨_, true, h⟩
/-- An append to numbers of the call's own: the reader stays. -/
theorem RdAt.low {w wr w' : World} {b : Nat} {rv : Value} {l : List Nat} {p : Nat} (h : RdAt wr b rv l p) (hbl : b < w.heap.size) (hlt : ∀ i, rv.ownBlock = some i → i < w.heap.size) (hb : Below w.heap.size wr w') : RdAt w' b rv l p :=
  h.kept (below_keep hb) (by omega) (fun k hk => by have := hlt k hk; omega)
theorem Kept.low {w wr w' : World} {b : Nat} (h : Kept (fun i => i = b) w wr) (hb : Below w.heap.size wr w') : Kept (fun i => i = b) w w' :=
  h.trans' (below_keep hb) (fun i hi hf => by omega)
theorem own_keep {w1 w2 : World} {b base : Nat} {v : Value} {l : List Int} (h : OwnInts w1 base v l) (hk : Kept (fun i => i = b) w1 w2) (hb : b < base) : OwnInts w2 base v l :=
  ownsRow_other h hk (fun k hk' hf => by have := (World.ownsRow.lt h k hk').1; omega)

set_option maxRecDepth 100000 in
set_option maxHeartbeats 4000000 in
theorem plift_any (w : World) (b : Nat) (rv : Value) (l : List Nat) (p0 n d : Nat) (m I : Int) (h : RdAt w b rv l p0) (hlt : ∀ i, rv.ownBlock = some i → i < w.heap.size) (hn : n ≤ 1000) (hd : d ≤ 24) (hm0 : 0 ≤ m) (hm1 : m ≤ 1000000000) (hI : I = (d : Int)) (T : Option (List Int × List Bool)) (hT : T = liftT d m n (left l p0)) :
    Calls Tryz.prog 76 #[.pointer (some ⟨b, 0, none⟩), .int .i64 (n : Int), .int .i64 I, .int .i64 m] w fun e w' => TakeR w w' b rv l T e := by
  obtain ⟨i0, hi, hz0, hz1, hz2⟩ := info_parts Tryz.info3
  have HR := hid_of h
  have HT : Hid (T = (liftT d m (n - 0) (left l p0)).map fun q => ([] ++ q.1, q.2)) := by show _ = _; rw [hT, Nat.sub_zero]; cases liftT d m n (left l p0) <;> rfl
  have HLT := hid_of hlt
  have HBL := hid_of h.lt
  have HI := hid_of hI
  clear h hT hlt hI
  go_enter Tryz.func76, Tryz.ntmps76
  go_wp2_with fail
  go_loopw [10, 14] (fun o i wr => ∃ (k p : Nat) (out : List Int), k ≤ n ∧ i = .int .i64 (k : Int) ∧ out.length ≤ 1000000 ∧ Hid (out.length = k) ∧ Hid (T = (liftT d m (n - k) (left l p)).map fun q => (out ++ q.1, q.2)) ∧ Hid (OwnInts wr w.heap.size o out) ∧ Hid (RdAt wr b rv l p) ∧ Hid (Kept (fun i => i = b) w wr)) (fun _ i _ => n - (intOf i).toNat)
  case atStart => exact ⟨0, p0, [], Nat.zero_le _, rfl, by decide, rfl, HT.out, OwnInts.nil _ _, HR.out, Kept.refl _ _⟩
  case round =>
    obtain ⟨k, p, out, hk, rfl, hol, HOL, ht, ho, hr, hkp⟩ := hrel
    have hsz : w.heap.size ≤ wr.heap.size := hkp.out.size
    by_cases hkn : k < n
    · have ek : n - k = (n - (k + 1)) + 1 := by omega
      by_cases hlen : d ≤ (left l p).length
      · obtain ⟨e1, -⟩ := takeD_some (n := d) (by omega) hlen
        obtain ⟨z, hz⟩ : ∃ z, z = num ((left l p).take d) := ⟨_, rfl⟩
        have hzb := num_small (left l p) d
        have hpw : (2 : Nat) ^ d ≤ 2 ^ 24 := Nat.pow_le_pow_right (by decide) hd
        rw [← hz] at e1 hzb
        have hzb' : z < 16777216 := by omega
        have HZ := hid_of hz
        obtain ⟨y, hy2⟩ : ∃ y, (z : Int) - m = y := ⟨_, rfl⟩
        have HNX : Hid (T = (liftT d m (n - (k + 1)) (left l (p + d))).map fun q => ((out ++ [y]) ++ q.1, q.2)) := by
          show _ = _
          rw [ht.out, ek, liftT, e1, left_drop, ← hy2]
          simp only [Option.bind_some]
          cases liftT d m (n - (k + 1)) ((left l p).drop d) <;> simp
        have HLEN := hid_of hlen
        clear e1 hz hzb hlen hpw
        go_wp2_with fail
        refine (pget_yes wr b rv l p d hr.out (by omega) HLEN.out _ HI.out z HZ.out).mono ?_
        rintro e w1 ⟨rfl, hr1, hk1⟩
        have HR1 := hid_of hr1
        have HK1 : Hid (Kept (fun i => i = b) w w1) := hkp.out.trans hk1
        have HO1 : Hid (OwnInts w1 w.heap.size u10 out) := own_keep ho.out hk1 HBL.out
        have hsz1 : w.heap.size ≤ w1.heap.size := HK1.out.size
        clear hr1 hk1
        go_wp2_with (at_builtin; go_must (refine wpList_append_int w1 rfl (.tmp 24) (.tmp 28) 22 rfl w.heap.size i0 Tryz.underlying22 hi hz0 hz1 hz2 u10 out (by rfl) HO1.out y (by rfl) hol hsz1 ?_))
        intro v' w' g1 g2
        have HR' : Hid (RdAt w' b rv l (p + d)) := HR1.out.low HBL.out HLT.out g2.out
        have HK' : Hid (Kept (fun i => i = b) w w') := HK1.out.low g2.out
        have HOL' : Hid ((out ++ [y]).length = k + 1) := by show _ = _; rw [List.length_append, HOL.out]; rfl
        have hol' : (out ++ [y]).length ≤ 1000000 := by rw [HOL'.out]; omega
        clear g2
        go_wp2_with fail
        exact ⟨⟨k + 1, p + d, out ++ [y], by omega, by go_num, hol', HOL', HNX, g1, HR', HK'⟩, by (simp [intOf]) <;> omega⟩
      · obtain ⟨e1, -⟩ := takeD_none (n := d) hlen
        have HLEN := hid_of hlen
        have HN : Hid (T = none) := by
          show _ = _
          rw [ht.out, ek, liftT, e1]
          rfl
        clear e1 hlen
        go_wp2_with fail
        refine (pget_no wr b rv l p d hr.out (by omega) HLEN.out _ HI.out).mono ?_
        rintro e w1 ⟨rfl, hk1⟩
        have HK1 : Hid (Kept (fun i => i = b) w w1) := hkp.out.trans hk1
        clear hk1
        go_wp2_with fail
        go_ret2
        rw [HN.out]
        exact ⟨_, rfl, HK1.out⟩
    · have e : k = n := by omega
      subst e
      have HS : Hid (T = some (out, left l p)) := by
        show _ = _
        rw [ht.out, Nat.sub_self]
        simp [liftT]
      obtain ⟨oa, oc, hu, -, -, -⟩ := ho.out.ns
      subst hu
      clear ht
      go_wp2_with fail
      go_ret2
      rw [HS.out]
      exact ⟨oa, oc, p, rfl, ho.out, hr.out, rfl, hkp.out⟩

set_option maxRecDepth 100000 in
set_option maxHeartbeats 4000000 in
theorem psamps_any (w : World) (b : Nat) (rv : Value) (l : List Nat) (p0 n : Nat) (h : RdAt w b rv l p0) (hlt : ∀ i, rv.ownBlock = some i → i < w.heap.size) (hn : n ≤ 1000) (J : Int) (hJ : J = (n : Int)) (T : Option (List Int × List Bool)) (hT : T = sampsT n (left l p0)) :
    Calls Tryz.prog 60 #[.pointer (some ⟨b, 0, none⟩), .int .i64 J] w fun e w' => TakeR w w' b rv l T e := by
  have HR := hid_of h
  have HLT := hid_of hlt
  rw [liftT_samps] at hT
  have HT := hid_of hT
  subst hJ
  clear h hlt hT
  go_enter Tryz.func60, Tryz.ntmps60
  go_wp2_with fail
  refine (plift_any w b rv l p0 n 24 8388608 _ HR.out HLT.out hn (by decide) (by decide) (by decide) rfl T HT.out).mono ?_
  rintro e w1 h1
  have H1 := hid_of h1
  obtain ⟨x, t, rfl⟩ := h1.form
  clear h1
  go_wp2_with fail
  go_ret2
  exact H1.out

set_option maxRecDepth 100000 in
set_option maxHeartbeats 4000000 in
theorem presT_any (w : World) (b : Nat) (rv : Value) (l : List Nat) (p0 n : Nat) (h : RdAt w b rv l p0) (hlt : ∀ i, rv.ownBlock = some i → i < w.heap.size) (hn : n ≤ 1000) (T : Option (List Int × List Bool)) (hT : T = resT n (left l p0)) :
    Calls Tryz.prog 77 #[.pointer (some ⟨b, 0, none⟩), .int .i64 (n : Int)] w fun e w' => TakeR w w' b rv l T e := by
  obtain ⟨i0, hi, hz0, hz1, hz2⟩ := info_parts Tryz.info3
  have HR := hid_of h
  have HLT := hid_of hlt
  have HBL := hid_of h.lt
  unfold resT at hT
  by_cases hlen : 5 ≤ (left l p0).length
  case neg =>
    obtain ⟨e1, -⟩ := takeD_none (n := 5) hlen
    have HLEN := hid_of hlen
    have HN : Hid (T = none) := by show _ = _; rw [hT, e1]; rfl
    clear h hT e1 hlen hlt
    go_enter Tryz.func77, Tryz.ntmps77
    go_wp2_with fail
    refine (pget_no w b rv l p0 5 HR.out (by decide) HLEN.out _ rfl).mono ?_
    rintro e w1 ⟨rfl, hk1⟩
    have HK1 := hid_of hk1
    clear hk1
    go_wp2_with fail
    go_ret2
    rw [HN.out]
    exact ⟨_, rfl, HK1.out⟩
  obtain ⟨e1, -⟩ := takeD_some (n := 5) (by decide) hlen
  obtain ⟨K, hK⟩ : ∃ K, K = num ((left l p0).take 5) := ⟨_, rfl⟩
  have hKb := num_small (left l p0) 5
  rw [← hK] at e1 hKb
  have HK := hid_of hK
  have HLEN := hid_of hlen
  rw [e1] at hT
  simp only [Option.bind_some] at hT
  rw [← left_drop] at hT
  by_cases hK24 : 24 < K
  · have HN : Hid (T = none) := by show _ = _; rw [hT, if_pos hK24]
    clear h hT e1 hlen hlt hK
    go_enter Tryz.func77, Tryz.ntmps77
    go_wp2_with fail
    refine (pget_yes w b rv l p0 5 HR.out (by decide) HLEN.out _ rfl K HK.out).mono ?_
    rintro e w1 ⟨rfl, -, hk1⟩
    have HK1 := hid_of hk1
    clear hk1
    go_wp2_with fail
    go_ret2
    rw [HN.out]
    exact ⟨_, rfl, HK1.out⟩
  rw [if_neg hK24] at hT
  have HT : Hid (T = (ricesT K (n - 0) (left l (p0 + 5))).map fun q => ([] ++ q.1, q.2)) := by show _ = _; rw [hT, Nat.sub_zero]; cases ricesT K n (left l (p0 + 5)) <;> rfl
  have hK24' : K ≤ 24 := by omega
  clear h hT e1 hlen hlt hK hK24 hKb
  go_enter Tryz.func77, Tryz.ntmps77
  go_wp2_with fail
  refine (pget_yes w b rv l p0 5 HR.out (by decide) HLEN.out _ rfl K HK.out).mono ?_
  rintro e w1 ⟨rfl, hr1, hk1⟩
  have HR1 := hid_of hr1
  have HK1 := hid_of hk1
  clear hr1 hk1
  go_wp2_with fail
  go_loopw [8, 23] (fun o i wr => ∃ (k p : Nat) (out : List Int), k ≤ n ∧ i = .int .i64 (k : Int) ∧ out.length ≤ 1000000 ∧ Hid (out.length = k) ∧ Hid (T = (ricesT K (n - k) (left l p)).map fun q => (out ++ q.1, q.2)) ∧ Hid (OwnInts wr w.heap.size o out) ∧ Hid (RdAt wr b rv l p) ∧ Hid (Kept (fun i => i = b) w wr)) (fun _ i _ => n - (intOf i).toNat)
  case atStart => exact ⟨0, p0 + 5, [], Nat.zero_le _, rfl, by decide, rfl, HT.out, OwnInts.nil _ _, HR1.out, HK1.out⟩
  case round =>
    obtain ⟨k, p, out, hk, rfl, hol, HOL, ht, ho, hr, hkp⟩ := hrel
    have hsz : w.heap.size ≤ wr.heap.size := hkp.out.size
    have HLT2 : Hid (∀ i, rv.ownBlock = some i → i < wr.heap.size) := fun i hi => Nat.lt_of_lt_of_le (HLT.out i hi) hsz
    by_cases hkn : k < n
    · have ek : n - k = (n - (k + 1)) + 1 := by omega
      obtain ⟨⟨z, u, ok⟩, hO⟩ : ∃ O, riceOut (left l p) (K : Int) = O := ⟨_, rfl⟩
      have HO := hid_of hO
      cases ok with
      | true =>
        obtain ⟨y, hy⟩ : ∃ y, y = zagOf (z : Int) := ⟨_, rfl⟩
        have HY : Hid (zagOf (z : Int) = y) := hy.symm
        have HNX : Hid (T = (ricesT K (n - (k + 1)) (left l (p + u))).map fun q => ((out ++ [y]) ++ q.1, q.2)) := by
          show _ = _
          rw [ht.out, ek, ricesT, hO, left_drop, hy]
          simp only [if_true]
          cases ricesT K (n - (k + 1)) ((left l p).drop u) <;> simp
        clear hO hy
        go_wp2_with fail
        refine (riceGet_all wr b rv l p _ hr.out HLT2.out _ HO.out).mono ?_
        rintro e w2 ⟨rfl, hr2, hk2⟩
        have HR2 := hid_of hr2
        have HK2 : Hid (Kept (fun i => i = b) w w2) := hkp.out.trans hk2
        have HO2 : Hid (OwnInts w2 w.heap.size u8 out) := own_keep ho.out hk2 HBL.out
        have hsz2 : w.heap.size ≤ w2.heap.size := HK2.out.size
        clear hr2 hk2
        go_wp2_with first
          | (go_at_call 96; refine (zag_any _ _).mono ?_; rw [HY.out]; rintro e w3 ⟨rfl, rfl⟩)
          | (at_builtin; go_must (refine wpList_append_int w2 rfl (.tmp 33) (.tmp 36) 22 rfl w.heap.size i0 Tryz.underlying22 hi hz0 hz1 hz2 u8 out (by rfl) HO2.out y (by rfl) hol hsz2 ?_))
        intro v' w' g1 g2
        have HR' : Hid (RdAt w' b rv l (p + u)) := HR2.out.low HBL.out HLT.out g2.out
        have HK' : Hid (Kept (fun i => i = b) w w') := HK2.out.low g2.out
        have HOL' : Hid ((out ++ [y]).length = k + 1) := by show _ = _; rw [List.length_append, HOL.out]; rfl
        have hol' : (out ++ [y]).length ≤ 1000000 := by rw [HOL'.out]; omega
        clear g2
        go_wp2_with fail
        exact ⟨⟨k + 1, p + u, out ++ [y], by omega, by go_num, hol', HOL', HNX, g1, HR', HK'⟩, by (simp [intOf]) <;> omega⟩
      | false =>
        have HN : Hid (T = none) := by
          show _ = _
          rw [ht.out, ek, ricesT, hO]
          rfl
        clear hO
        go_wp2_with fail
        refine (riceGet_all wr b rv l p _ hr.out HLT2.out _ HO.out).mono ?_
        rintro e w2 ⟨rfl, -, hk2⟩
        have HK2 : Hid (Kept (fun i => i = b) w w2) := hkp.out.trans hk2
        clear hk2
        go_wp2_with fail
        go_ret2
        rw [HN.out]
        exact ⟨_, rfl, HK2.out⟩
    · have e : k = n := by omega
      subst e
      have HS : Hid (T = some (out, left l p)) := by
        show _ = _
        rw [ht.out, Nat.sub_self]
        simp [ricesT]
      obtain ⟨oa, oc, hu, -, -, -⟩ := ho.out.ns
      subst hu
      clear ht
      go_wp2_with fail
      go_ret2
      rw [HS.out]
      exact ⟨oa, oc, p, rfl, ho.out, hr.out, rfl, hkp.out⟩

end Go.Proofs.YtlonnoapbfjomabGreat
