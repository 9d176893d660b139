/- The texts Dec1, Frm7, Dec2, Dec3, one behind the other. -/
import Derived.Test.YthkfaackkcdcoabGreatPart08
import Derived.Test.YthkfaackkcdcoabGreatPart12
import Derived.Test.YthkfaackkcdcoabGreatPart07
import Derived.Test.YthkfaackkcdcoabGreatPart03
import Derived.Test.YthkfaackkcdcoabGreatPart05

/- frame: numbers, residuals, a constant out of a reader. -/
namespace Go.Proofs.YthkfaackkcdcoabGreat
set_option linter.unusedVariables false
set_option linter.unusedSimpArgs false
open Go.RowKit Dg

theorem length_left (l : List Nat) (p : Nat) : (left l p).length = 8 * l.length - p := by simp [left]
theorem pget_no (w : World) (b : Nat) (rv : Value) (l : List Nat) (p n : Nat) (h : RdAt w b rv l p) (hn : n ≤ 62) (hlen : ¬ n ≤ (left l p).length) (I : Int) (hI : I = (n : Int)) :
    Calls Tryz.prog 58 #[.pointer (some ⟨b, 0, none⟩), .int .i64 I] w fun e w' => e = .returned (.tuple #[.int .i64 0, .bool false]) ∧ Kept (fun i => i = b) w w' := by
  subst hI
  rw [length_left] at hlen
  have := h.le
  refine (get_few w b rv l p (n : Int) h (by omega) (by omega) (by omega)).mono ?_
  rintro e w' ⟨rfl, rfl⟩
  exact ⟨rfl, (Kept.refl _ _).drew⟩
theorem pget_yes (w : World) (b : Nat) (rv : Value) (l : List Nat) (p n : Nat) (h : RdAt w b rv l p) (hn : n ≤ 62) (hlen : n ≤ (left l p).length) (I : Int) (hI : I = (n : Int)) (z : Nat) (hz : z = num ((left l p).take n)) :
    Calls Tryz.prog 58 #[.pointer (some ⟨b, 0, none⟩), .int .i64 I] w fun e w' => e = .returned (.tuple #[.int .i64 (z : Int), .bool true]) ∧ RdAt w' b rv l (p + n) ∧ Kept (fun i => i = b) w w' := by
  rw [length_left] at hlen
  have := h.le
  exact get_at w b rv l p n h hn (by omega) I hI _ (by rw [hz]; rfl)
/-- Samples, coefficients: numbers that were lifted. -/
def liftT (d : Nat) (m : Int) : Nat → List Bool → Option (List Int × List Bool)
  | 0, ds => some ([], ds)
  | n + 1, ds => (takeD ds d).bind fun r => (liftT d m n r.2).map fun q => ((((r.1 : Nat) : Int) - m) :: q.1, q.2)
theorem liftT_samps (n : Nat) (ds : List Bool) : sampsT n ds = liftT 24 8388608 n ds := by
  induction n generalizing ds with
  | zero => rfl
  | succ n ih => simp only [sampsT, liftT, ih]
theorem liftT_coefs (n : Nat) (ds : List Bool) : coefsT n ds = liftT 16 32768 n ds := by
  induction n generalizing ds with
  | zero => rfl
  | succ n ih => simp only [coefsT, liftT, ih]
/-- What a taker answers: numbers of the call's own, and whether there are any. -/
def TakeR (w w' : World) (b : Nat) (rv : Value) (l : List Nat) (T : Option (List Int × List Bool)) (e : Ending) : Prop :=
  match T with
  | none => ∃ x, e = .returned (.tuple #[x, .bool false]) ∧ Kept (fun i => i = b) w w'
  | some q => ∃ a cap p, e = .returned (.tuple #[.slice a q.1.length cap, .bool true]) ∧ OwnInts w' w.heap.size (.slice a q.1.length cap) q.1 ∧ RdAt w' b rv l p ∧ q.2 = left l p ∧ Kept (fun i => i = b) w w'
theorem TakeR.form {w w' : World} {b : Nat} {rv : Value} {l : List Nat} {T : Option (List Int × List Bool)} {e : Ending} (h : TakeR w w' b rv l T e) : ∃ x t, e = .returned (.tuple #[x, .bool t]) := by
  cases T with
  | none => obtain ⟨x, h, -⟩ := h; exact ⟨x, false, h⟩
  | some q => obtain ⟨a, c, p, h, -⟩ := h; exact ⟨_, true, h⟩
/-- An append to numbers of the call's own: the reader stays. -/
theorem RdAt.low {w wr w' : World} {b : Nat} {rv : Value} {l : List Nat} {p : Nat} (h : RdAt wr b rv l p) (hbl : b < w.heap.size) (hlt : ∀ i, rv.ownBlock = some i → i < w.heap.size) (hb : Below w.heap.size wr w') : RdAt w' b rv l p :=
  h.kept (below_keep hb) (by omega) (fun k hk => by have := hlt k hk; omega)
theorem Kept.low {w wr w' : World} {b : Nat} (h : Kept (fun i => i = b) w wr) (hb : Below w.heap.size wr w') : Kept (fun i => i = b) w w' :=
  h.trans' (below_keep hb) (fun i hi hf => by omega)
theorem own_keep {w1 w2 : World} {b base : Nat} {v : Value} {l : List Int} (h : OwnInts w1 base v l) (hk : Kept (fun i => i = b) w1 w2) (hb : b < base) : OwnInts w2 base v l :=
  ownsRow_other h hk (fun k hk' hf => by have := (World.ownsRow.lt h k hk').1; omega)

set_option maxRecDepth 100000 in
set_option maxHeartbeats 4000000 in
theorem plift_any (w : World) (b : Nat) (rv : Value) (l : List Nat) (p0 n d : Nat) (m I : Int) (h : RdAt w b rv l p0) (hlt : ∀ i, rv.ownBlock = some i → i < w.heap.size) (hn : n ≤ 1000) (hd : d ≤ 24) (hm0 : 0 ≤ m) (hm1 : m ≤ 1000000000) (hI : I = (d : Int)) (T : Option (List Int × List Bool)) (hT : T = liftT d m n (left l p0)) :
    Calls Tryz.prog 76 #[.pointer (some ⟨b, 0, none⟩), .int .i64 (n : Int), .int .i64 I, .int .i64 m] w fun e w' => TakeR w w' b rv l T e := by
  obtain ⟨i0, hi, hz0, hz1, hz2⟩ := info_parts Tryz.info3
  have HR := hid_of h
  have HT : Hid (T = (liftT d m (n - 0) (left l p0)).map fun q => ([] ++ q.1, q.2)) := by show _ = _; rw [hT, Nat.sub_zero]; cases liftT d m n (left l p0) <;> rfl
  have HLT := hid_of hlt
  have HBL := hid_of h.lt
  have HI := hid_of hI
  clear h hT hlt hI
  go_enter Tryz.func76, Tryz.ntmps76
  go_wp2_with fail
  go_loopw [10, 14] (fun o i wr => ∃ (k p : Nat) (out : List Int), k ≤ n ∧ i = .int .i64 (k : Int) ∧ out.length ≤ 1000000 ∧ Hid (out.length = k) ∧ Hid (T = (liftT d m (n - k) (left l p)).map fun q => (out ++ q.1, q.2)) ∧ Hid (OwnInts wr w.heap.size o out) ∧ Hid (RdAt wr b rv l p) ∧ Hid (Kept (fun i => i = b) w wr)) (fun _ i _ => n - (intOf i).toNat)
  case atStart => exact ⟨0, p0, [], Nat.zero_le _, rfl, by decide, rfl, HT.out, OwnInts.nil _ _, HR.out, Kept.refl _ _⟩
  case round =>
    obtain ⟨k, p, out, hk, rfl, hol, HOL, ht, ho, hr, hkp⟩ := hrel
    have hsz : w.heap.size ≤ wr.heap.size := hkp.out.size
    by_cases hkn : k < n
    · have ek : n - k = (n - (k + 1)) + 1 := by omega
      by_cases hlen : d ≤ (left l p).length
      · obtain ⟨e1, -⟩ := takeD_some (n := d) (by omega) hlen
        obtain ⟨z, hz⟩ : ∃ z, z = num ((left l p).take d) := ⟨_, rfl⟩
        have hzb := num_small (left l p) d
        have hpw : (2 : Nat) ^ d ≤ 2 ^ 24 := Nat.pow_le_pow_right (by decide) hd
        rw [← hz] at e1 hzb
        have hzb' : z < 16777216 := by omega
        have HZ := hid_of hz
        obtain ⟨y, hy2⟩ : ∃ y, (z : Int) - m = y := ⟨_, rfl⟩
        have HNX : Hid (T = (liftT d m (n - (k + 1)) (left l (p + d))).map fun q => ((out ++ [y]) ++ q.1, q.2)) := by
          show _ = _
          rw [ht.out, ek, liftT, e1, left_drop, ← hy2]
          simp only [Option.bind_some]
          cases liftT d m (n - (k + 1)) ((left l p).drop d) <;> simp
        have HLEN := hid_of hlen
        clear e1 hz hzb hlen hpw
        go_wp2_with fail
        refine (pget_yes wr b rv l p d hr.out (by omega) HLEN.out _ HI.out z HZ.out).mono ?_
        rintro e w1 ⟨rfl, hr1, hk1⟩
        have HR1 := hid_of hr1
        have HK1 : Hid (Kept (fun i => i = b) w w1) := hkp.out.trans hk1
        have HO1 : Hid (OwnInts w1 w.heap.size u10 out) := own_keep ho.out hk1 HBL.out
        have hsz1 : w.heap.size ≤ w1.heap.size := HK1.out.size
        clear hr1 hk1
        go_wp2_with (at_builtin; go_must (refine wpList_append_int w1 rfl (.tmp 24) (.tmp 28) 22 rfl w.heap.size i0 Tryz.underlying22 hi hz0 hz1 hz2 u10 out (by rfl) HO1.out y (by rfl) hol hsz1 ?_))
        intro v' w' g1 g2
        have HR' : Hid (RdAt w' b rv l (p + d)) := HR1.out.low HBL.out HLT.out g2.out
        have HK' : Hid (Kept (fun i => i = b) w w') := HK1.out.low g2.out
        have HOL' : Hid ((out ++ [y]).length = k + 1) := by show _ = _; rw [List.length_append, HOL.out]; rfl
        have hol' : (out ++ [y]).length ≤ 1000000 := by rw [HOL'.out]; omega
        clear g2
        go_wp2_with fail
        exact ⟨⟨k + 1, p + d, out ++ [y], by omega, by go_num, hol', HOL', HNX, g1, HR', HK'⟩, by (simp [intOf]) <;> omega⟩
      · obtain ⟨e1, -⟩ := takeD_none (n := d) hlen
        have HLEN := hid_of hlen
        have HN : Hid (T = none) := by
          show _ = _
          rw [ht.out, ek, liftT, e1]
          rfl
        clear e1 hlen
        go_wp2_with fail
        refine (pget_no wr b rv l p d hr.out (by omega) HLEN.out _ HI.out).mono ?_
        rintro e w1 ⟨rfl, hk1⟩
        have HK1 : Hid (Kept (fun i => i = b) w w1) := hkp.out.trans hk1
        clear hk1
        go_wp2_with fail
        go_ret2
        rw [HN.out]
        exact ⟨_, rfl, HK1.out⟩
    · have e : k = n := by omega
      subst e
      have HS : Hid (T = some (out, left l p)) := by
        show _ = _
        rw [ht.out, Nat.sub_self]
        simp [liftT]
      obtain ⟨oa, oc, hu, -, -, -⟩ := ho.out.ns
      subst hu
      clear ht
      go_wp2_with fail
      go_ret2
      rw [HS.out]
      exact ⟨oa, oc, p, rfl, ho.out, hr.out, rfl, hkp.out⟩

set_option maxRecDepth 100000 in
set_option maxHeartbeats 4000000 in
theorem psamps_any (w : World) (b : Nat) (rv : Value) (l : List Nat) (p0 n : Nat) (h : RdAt w b rv l p0) (hlt : ∀ i, rv.ownBlock = some i → i < w.heap.size) (hn : n ≤ 1000) (J : Int) (hJ : J = (n : Int)) (T : Option (List Int × List Bool)) (hT : T = sampsT n (left l p0)) :
    Calls Tryz.prog 60 #[.pointer (some ⟨b, 0, none⟩), .int .i64 J] w fun e w' => TakeR w w' b rv l T e := by
  have HR := hid_of h
  have HLT := hid_of hlt
  rw [liftT_samps] at hT
  have HT := hid_of hT
  subst hJ
  clear h hlt hT
  go_enter Tryz.func60, Tryz.ntmps60
  go_wp2_with fail
  refine (plift_any w b rv l p0 n 24 8388608 _ HR.out HLT.out hn (by decide) (by decide) (by decide) rfl T HT.out).mono ?_
  rintro e w1 h1
  have H1 := hid_of h1
  obtain ⟨x, t, rfl⟩ := h1.form
  clear h1
  go_wp2_with fail
  go_ret2
  exact H1.out

set_option maxRecDepth 100000 in
set_option maxHeartbeats 4000000 in
theorem presT_any (w : World) (b : Nat) (rv : Value) (l : List Nat) (p0 n : Nat) (h : RdAt w b rv l p0) (hlt : ∀ i, rv.ownBlock = some i → i < w.heap.size) (hn : n ≤ 1000) (T : Option (List Int × List Bool)) (hT : T = resT n (left l p0)) :
    Calls Tryz.prog 77 #[.pointer (some ⟨b, 0, none⟩), .int .i64 (n : Int)] w fun e w' => TakeR w w' b rv l T e := by
  obtain ⟨i0, hi, hz0, hz1, hz2⟩ := info_parts Tryz.info3
  have HR := hid_of h
  have HLT := hid_of hlt
  have HBL := hid_of h.lt
  unfold resT at hT
  by_cases hlen : 5 ≤ (left l p0).length
  case neg =>
    obtain ⟨e1, -⟩ := takeD_none (n := 5) hlen
    have HLEN := hid_of hlen
    have HN : Hid (T = none) := by show _ = _; rw [hT, e1]; rfl
    clear h hT e1 hlen hlt
    go_enter Tryz.func77, Tryz.ntmps77
    go_wp2_with fail
    refine (pget_no w b rv l p0 5 HR.out (by decide) HLEN.out _ rfl).mono ?_
    rintro e w1 ⟨rfl, hk1⟩
    have HK1 := hid_of hk1
    clear hk1
    go_wp2_with fail
    go_ret2
    rw [HN.out]
    exact ⟨_, rfl, HK1.out⟩
  obtain ⟨e1, -⟩ := takeD_some (n := 5) (by decide) hlen
  obtain ⟨K, hK⟩ : ∃ K, K = num ((left l p0).take 5) := ⟨_, rfl⟩
  have hKb := num_small (left l p0) 5
  rw [← hK] at e1 hKb
  have HK := hid_of hK
  have HLEN := hid_of hlen
  rw [e1] at hT
  simp only [Option.bind_some] at hT
  rw [← left_drop] at hT
  by_cases hK24 : 24 < K
  · have HN : Hid (T = none) := by show _ = _; rw [hT, if_pos hK24]
    clear h hT e1 hlen hlt hK
    go_enter Tryz.func77, Tryz.ntmps77
    go_wp2_with fail
    refine (pget_yes w b rv l p0 5 HR.out (by decide) HLEN.out _ rfl K HK.out).mono ?_
    rintro e w1 ⟨rfl, -, hk1⟩
    have HK1 := hid_of hk1
    clear hk1
    go_wp2_with fail
    go_ret2
    rw [HN.out]
    exact ⟨_, rfl, HK1.out⟩
  rw [if_neg hK24] at hT
  have HT : Hid (T = (ricesT K (n - 0) (left l (p0 + 5))).map fun q => ([] ++ q.1, q.2)) := by show _ = _; rw [hT, Nat.sub_zero]; cases ricesT K n (left l (p0 + 5)) <;> rfl
  have hK24' : K ≤ 24 := by omega
  clear h hT e1 hlen hlt hK hK24 hKb
  go_enter Tryz.func77, Tryz.ntmps77
  go_wp2_with fail
  refine (pget_yes w b rv l p0 5 HR.out (by decide) HLEN.out _ rfl K HK.out).mono ?_
  rintro e w1 ⟨rfl, hr1, hk1⟩
  have HR1 := hid_of hr1
  have HK1 := hid_of hk1
  clear hr1 hk1
  go_wp2_with fail
  go_loopw [8, 23] (fun o i wr => ∃ (k p : Nat) (out : List Int), k ≤ n ∧ i = .int .i64 (k : Int) ∧ out.length ≤ 1000000 ∧ Hid (out.length = k) ∧ Hid (T = (ricesT K (n - k) (left l p)).map fun q => (out ++ q.1, q.2)) ∧ Hid (OwnInts wr w.heap.size o out) ∧ Hid (RdAt wr b rv l p) ∧ Hid (Kept (fun i => i = b) w wr)) (fun _ i _ => n - (intOf i).toNat)
  case atStart => exact ⟨0, p0 + 5, [], Nat.zero_le _, rfl, by decide, rfl, HT.out, OwnInts.nil _ _, HR1.out, HK1.out⟩
  case round =>
    obtain ⟨k, p, out, hk, rfl, hol, HOL, ht, ho, hr, hkp⟩ := hrel
    have hsz : w.heap.size ≤ wr.heap.size := hkp.out.size
    have HLT2 : Hid (∀ i, rv.ownBlock = some i → i < wr.heap.size) := fun i hi => Nat.lt_of_lt_of_le (HLT.out i hi) hsz
    by_cases hkn : k < n
    · have ek : n - k = (n - (k + 1)) + 1 := by omega
      obtain ⟨⟨z, u, ok⟩, hO⟩ : ∃ O, riceOut (left l p) (K : Int) = O := ⟨_, rfl⟩
      have HO := hid_of hO
      cases ok with
      | true =>
        obtain ⟨y, hy⟩ : ∃ y, y = zagOf (z : Int) := ⟨_, rfl⟩
        have HY : Hid (zagOf (z : Int) = y) := hy.symm
        have HNX : Hid (T = (ricesT K (n - (k + 1)) (left l (p + u))).map fun q => ((out ++ [y]) ++ q.1, q.2)) := by
          show _ = _
          rw [ht.out, ek, ricesT, hO, left_drop, hy]
          simp only [if_true]
          cases ricesT K (n - (k + 1)) ((left l p).drop u) <;> simp
        clear hO hy
        go_wp2_with fail
        refine (riceGet_all wr b rv l p _ hr.out HLT2.out _ HO.out).mono ?_
        rintro e w2 ⟨rfl, hr2, hk2⟩
        have HR2 := hid_of hr2
        have HK2 : Hid (Kept (fun i => i = b) w w2) := hkp.out.trans hk2
        have HO2 : Hid (OwnInts w2 w.heap.size u8 out) := own_keep ho.out hk2 HBL.out
        have hsz2 : w.heap.size ≤ w2.heap.size := HK2.out.size
        clear hr2 hk2
        go_wp2_with first
          | (go_at_call 96; refine (zag_any _ _).mono ?_; rw [HY.out]; rintro e w3 ⟨rfl, rfl⟩)
          | (at_builtin; go_must (refine wpList_append_int w2 rfl (.tmp 33) (.tmp 36) 22 rfl w.heap.size i0 Tryz.underlying22 hi hz0 hz1 hz2 u8 out (by rfl) HO2.out y (by rfl) hol hsz2 ?_))
        intro v' w' g1 g2
        have HR' : Hid (RdAt w' b rv l (p + u)) := HR2.out.low HBL.out HLT.out g2.out
        have HK' : Hid (Kept (fun i => i = b) w w') := HK2.out.low g2.out
        have HOL' : Hid ((out ++ [y]).length = k + 1) := by show _ = _; rw [List.length_append, HOL.out]; rfl
        have hol' : (out ++ [y]).length ≤ 1000000 := by rw [HOL'.out]; omega
        clear g2
        go_wp2_with fail
        exact ⟨⟨k + 1, p + u, out ++ [y], by omega, by go_num, hol', HOL', HNX, g1, HR', HK'⟩, by (simp [intOf]) <;> omega⟩
      | false =>
        have HN : Hid (T = none) := by
          show _ = _
          rw [ht.out, ek, ricesT, hO]
          rfl
        clear hO
        go_wp2_with fail
        refine (riceGet_all wr b rv l p _ hr.out HLT2.out _ HO.out).mono ?_
        rintro e w2 ⟨rfl, -, hk2⟩
        have HK2 : Hid (Kept (fun i => i = b) w w2) := hkp.out.trans hk2
        clear hk2
        go_wp2_with fail
        go_ret2
        rw [HN.out]
        exact ⟨_, rfl, HK2.out⟩
    · have e : k = n := by omega
      subst e
      have HS : Hid (T = some (out, left l p)) := by
        show _ = _
        rw [ht.out, Nat.sub_self]
        simp [ricesT]
      obtain ⟨oa, oc, hu, -, -, -⟩ := ho.out.ns
      subst hu
      clear ht
      go_wp2_with fail
      go_ret2
      rw [HS.out]
      exact ⟨oa, oc, p, rfl, ho.out, hr.out, rfl, hkp.out⟩

end Go.Proofs.YthkfaackkcdcoabGreat

/- The document's own Decode. -/
namespace Go.Proofs.YthkfaackkcdcoabGreat
set_option linter.unusedVariables false
set_option linter.unusedSimpArgs false
open Go.RowKit Dg

theorem left_zero (l : List Nat) : left l 0 = unpack l := by simp [left]
def outOf (o : Option (List Int)) : List Int × Int := match o with | none => ([], 2) | some x => (x, 0)
theorem decOut_of (l : List Nat) : decOut 2 l = outOf (decD (unpack l)) := by unfold decOut outOf; rfl
/-- All that is behind the samples that a frame begins with. -/
def finT (K n : Nat) (q : List Int × List Bool) : Option (List Int) := (bodyT K n q.1 q.2).bind fun y => if noOnes y.2 = true then some y.1 else none
def badHead (K n : Nat) : Prop := 18 < K ∨ n < 1 ∨ 64 < n ∨ n < ordOf K n ∨ (6 < K ∧ n ≤ ordOf K n)
theorem decD_at {l : List Nat} {K n : Nat} (h1 : takeD (left l 0) 8 = some (K, left l 8)) (h2 : takeD (left l 8) 8 = some (n, left l 16)) (hg : ¬ badHead K n) : decD (unpack l) = (sampsT (ordOf K n) (left l 16)).bind (finT K n) := by
  rw [← left_zero]
  unfold decD
  rw [h1]
  simp only [Option.bind_some]
  rw [h2]
  simp only [Option.bind_some]
  unfold badHead at hg
  rw [if_neg hg]
  rfl
theorem decD_badhead {l : List Nat} {K n : Nat} (h1 : takeD (left l 0) 8 = some (K, left l 8)) (h2 : takeD (left l 8) 8 = some (n, left l 16)) (hg : badHead K n) : decD (unpack l) = none := by
  rw [← left_zero]
  unfold decD
  rw [h1]
  simp only [Option.bind_some]
  rw [h2]
  simp only [Option.bind_some]
  unfold badHead at hg
  rw [if_pos hg]
theorem decD_short {l : List Nat} (h : takeD (left l 0) 8 = none ∨ ∃ K, takeD (left l 0) 8 = some (K, left l 8) ∧ takeD (left l 8) 8 = none) : decD (unpack l) = none := by
  rw [← left_zero]
  unfold decD
  rcases h with h | ⟨K, h1, h2⟩
  · rw [h]; rfl
  · rw [h1]
    simp only [Option.bind_some]
    rw [h2]
    rfl
theorem takeD_left {l : List Nat} {p n : Nat} (hn : n ≤ 62) (h : n ≤ (left l p).length) : ∃ z, z < 2 ^ n ∧ takeD (left l p) n = some (z, left l (p + n)) ∧ getOut (left l p) (n : Int) = (z, n, true) := by
  obtain ⟨e1, e2⟩ := takeD_some hn h
  exact ⟨_, num_small _ _, by rw [left_drop]; exact e1, e2⟩
theorem zagOf_small (z : Int) : -1099511627776 ≤ zagOf z ∧ zagOf z ≤ 1099511627776 := by
  unfold zagOf
  split
  · omega
  · split <;> omega
theorem ricesT_i64 (k : Nat) : ∀ (n : Nat) (ds : List Bool) (q : List Int × List Bool), ricesT k n ds = some q → (∀ x ∈ q.1, I64 x) ∧ q.1.length = n := by
  intro n
  induction n with
  | zero =>
    intro ds q h
    simp [ricesT] at h
    subst h
    exact ⟨fun x hx => by simp at hx, rfl⟩
  | succ n ih =>
    intro ds q h
    rw [ricesT] at h
    split at h
    · obtain ⟨q', h1, rfl⟩ := Option.map_eq_some_iff.1 h
      obtain ⟨g1, g2⟩ := ih _ _ h1
      refine ⟨fun x hx => ?_, by simp [g2]⟩
      rcases List.mem_cons.1 hx with rfl | hx
      · have := zagOf_small ((riceOut ds (k : Int)).1 : Nat)
        unfold I64
        omega
      · exact g1 x hx
    · cases h
theorem resT_i64 {n : Nat} {ds : List Bool} {q : List Int × List Bool} (h : resT n ds = some q) : (∀ x ∈ q.1, I64 x) ∧ q.1.length = n := by
  unfold resT at h
  obtain ⟨r, -, h2⟩ := Option.bind_eq_some_iff.1 h
  split at h2
  · cases h2
  · exact ricesT_i64 _ _ _ _ h2
theorem sampsT_len : ∀ (n : Nat) (ds : List Bool) (q : List Int × List Bool), sampsT n ds = some q → q.1.length = n := by
  intro n
  induction n with
  | zero => intro ds q h; simp [sampsT] at h; subst h; rfl
  | succ n ih =>
    intro ds q h
    rw [sampsT] at h
    obtain ⟨r, -, h2⟩ := Option.bind_eq_some_iff.1 h
    obtain ⟨q', h3, rfl⟩ := Option.map_eq_some_iff.1 h2
    simp [ih _ _ h3]
theorem finT_verb (n : Nat) (xs : List Int) (r : List Bool) : finT 1 n (xs, r) = if noOnes r = true then some xs else none := by
  unfold finT bodyT
  rw [if_neg (by decide), if_pos rfl]
  rfl
theorem finT_const (n : Nat) (xs : List Int) (r : List Bool) : finT 0 n (xs, r) = if noOnes r = true then some (List.replicate n (xs.getD 0 0)) else none := by
  unfold finT bodyT
  rw [if_pos rfl]
  rfl
theorem left_short (l : List Nat) (p : Nat) (h : l.length ≤ 1000000) : (left l p).length ≤ 4398046511104 := by rw [left_len]; omega

set_option maxRecDepth 100000 in
set_option maxHeartbeats 4000000 in
theorem rdec_short (w : World) (v : Value) (l : List Nat) (h : SlAt w v l) (hl : l.length ≤ 1000000) (hby : ∀ x ∈ l, x < 256) (g1 g2 : Nat × Nat × Bool) (hg1 : getOut (left l 0) 8 = g1) (hg2 : getOut (left l (0 + g1.2.1)) 8 = g2) (hbad : g1.2.2 = false ∨ (g1.2.2 = true ∧ g2.2.2 = false)) :
    Calls Tryz.prog 17 #[v] w fun e w' => Gave w w' ([], 2) e := by
  have HSL := hid_of h
  have HBY := hid_of hby
  clear h hby
  obtain ⟨k1, u1, ok1⟩ := g1
  obtain ⟨k2, u2, ok2⟩ := g2
  have HG1 := hid_of hg1
  have HG2 := hid_of hg2
  simp only at hbad
  clear hg1 hg2
  rcases hbad with rfl | ⟨rfl, rfl⟩
  all_goals
    go_enter Tryz.func17, Tryz.ntmps17
    go_wp2_with fail
    refine (of_any w v l HSL.out hl HBY.out).mono ?_
    rintro e w1 ⟨v1, rfl, h1, hb1⟩
    have HBT1 : Hid (BtAt w1 v1 (left l 0)) := by show BtAt _ _ _; rw [left_zero]; exact BtAt.of_owns h1
    have HB1 := hid_of hb1
    clear h1 hb1
    go_wp2_with fail
    refine (rget_all' w1 v1 l 0 8 HBT1.out _ HG1.out).mono ?_
    rintro e w2 ⟨v2, rfl, hb2, -, m2, rfl⟩
    have HBT2 := hid_of hb2
    clear hb2 HBT1
    go_wp2_with fail
    refine (rget_all' (w1.drewN m2) v2 l _ 8 HBT2.out _ HG2.out).mono ?_
    rintro e w3 ⟨v3, rfl, hb3, -, m3, rfl⟩
    have HBT3 : Hid (BtAt (w1.drewN (m2 + m3)) v3 (left l (0 + u1 + u2))) := hb3
    have HB3 : Hid (Below w.heap.size w (w1.drewN (m2 + m3))) := below_drewN HB1.out (m2 + m3)
    clear hb3 HBT2 HB1
    go_wp2_with fail
    go_ret2
    exact Gave.none rfl HB3.out

set_option maxRecDepth 100000 in
set_option maxHeartbeats 4000000 in
theorem rdec_bad (w : World) (v : Value) (l : List Nat) (h : SlAt w v l) (hl : l.length ≤ 1000000) (hby : ∀ x ∈ l, x < 256) (K n : Nat) (hg1 : getOut (left l 0) 8 = (K, 8, true)) (hg2 : getOut (left l (0 + 8)) 8 = (n, 8, true)) (hK : K < 256) (hn : n < 256) (hbad : badHead K n) :
    Calls Tryz.prog 17 #[v] w fun e w' => Gave w w' ([], 2) e := by
  have HSL := hid_of h
  have HBY := hid_of hby
  clear h hby
  have HG1 := hid_of hg1
  have HG2 := hid_of hg2
  clear hg1 hg2
  have hc : 18 < K ∨ (K ≤ 18 ∧ n < 1) ∨ (K ≤ 18 ∧ 1 ≤ n ∧ 64 < n) ∨ (K ≤ 18 ∧ 1 ≤ n ∧ n ≤ 64 ∧ (K == 0) = false ∧ (K == 1) = false ∧ K ≤ 6 ∧ 2 ≤ K ∧ n < K - 2) ∨ (K ≤ 18 ∧ 1 ≤ n ∧ n ≤ 64 ∧ (K == 0) = false ∧ (K == 1) = false ∧ 6 < K ∧ n ≤ K - 6) := by
    simp only [beq_eq_false_iff_ne]
    unfold badHead ordOf at hbad
    by_cases h0 : K = 0
    · simp [h0] at hbad ⊢; omega
    by_cases h1 : K = 1
    · simp [h1] at hbad ⊢; omega
    by_cases h6 : K ≤ 6
    · simp [h0, h1, h6] at hbad; omega
    · simp [h0, h1, h6] at hbad; omega
  clear hbad
  rcases hc with h1 | ⟨h1, h2⟩ | ⟨h1, h2, h3⟩ | ⟨h1, h2, h3, hb0, hb1, h4, h4', h5⟩ | ⟨h1, h2, h3, hb0, hb1, h4, h5⟩
  · go_enter Tryz.func17, Tryz.ntmps17
    go_wp2_with fail
    refine (of_any w v l HSL.out hl HBY.out).mono ?_
    rintro e w1 ⟨v1, rfl, h1, hb1⟩
    have HBT1 : Hid (BtAt w1 v1 (left l 0)) := by show BtAt _ _ _; rw [left_zero]; exact BtAt.of_owns h1
    have HB1 := hid_of hb1
    clear h1 hb1
    go_wp2_with fail
    refine (rget_all' w1 v1 l 0 8 HBT1.out _ HG1.out).mono ?_
    rintro e w2 ⟨v2, rfl, hb2, -, m2, rfl⟩
    have HBT2 := hid_of hb2
    clear hb2 HBT1
    go_wp2_with fail
    refine (rget_all' (w1.drewN m2) v2 l _ 8 HBT2.out _ HG2.out).mono ?_
    rintro e w3 ⟨v3, rfl, hb3, -, m3, rfl⟩
    have HBT3 : Hid (BtAt (w1.drewN (m2 + m3)) v3 (left l (0 + 8 + 8))) := hb3
    have HB3 : Hid (Below w.heap.size w (w1.drewN (m2 + m3))) := below_drewN HB1.out (m2 + m3)
    clear hb3 HBT2 HB1
    go_wp2_with fail
    go_ret2
    exact Gave.none rfl HB3.out
  · go_enter Tryz.func17, Tryz.ntmps17
    go_wp2_with fail
    refine (of_any w v l HSL.out hl HBY.out).mono ?_
    rintro e w1 ⟨v1, rfl, h1, hb1⟩
    have HBT1 : Hid (BtAt w1 v1 (left l 0)) := by show BtAt _ _ _; rw [left_zero]; exact BtAt.of_owns h1
    have HB1 := hid_of hb1
    clear h1 hb1
    go_wp2_with fail
    refine (rget_all' w1 v1 l 0 8 HBT1.out _ HG1.out).mono ?_
    rintro e w2 ⟨v2, rfl, hb2, -, m2, rfl⟩
    have HBT2 := hid_of hb2
    clear hb2 HBT1
    go_wp2_with fail
    refine (rget_all' (w1.drewN m2) v2 l _ 8 HBT2.out _ HG2.out).mono ?_
    rintro e w3 ⟨v3, rfl, hb3, -, m3, rfl⟩
    have HBT3 : Hid (BtAt (w1.drewN (m2 + m3)) v3 (left l (0 + 8 + 8))) := hb3
    have HB3 : Hid (Below w.heap.size w (w1.drewN (m2 + m3))) := below_drewN HB1.out (m2 + m3)
    clear hb3 HBT2 HB1
    go_wp2_with fail
    go_ret2
    exact Gave.none rfl HB3.out
  · go_enter Tryz.func17, Tryz.ntmps17
    go_wp2_with fail
    refine (of_any w v l HSL.out hl HBY.out).mono ?_
    rintro e w1 ⟨v1, rfl, h1, hb1⟩
    have HBT1 : Hid (BtAt w1 v1 (left l 0)) := by show BtAt _ _ _; rw [left_zero]; exact BtAt.of_owns h1
    have HB1 := hid_of hb1
    clear h1 hb1
    go_wp2_with fail
    refine (rget_all' w1 v1 l 0 8 HBT1.out _ HG1.out).mono ?_
    rintro e w2 ⟨v2, rfl, hb2, -, m2, rfl⟩
    have HBT2 := hid_of hb2
    clear hb2 HBT1
    go_wp2_with fail
    refine (rget_all' (w1.drewN m2) v2 l _ 8 HBT2.out _ HG2.out).mono ?_
    rintro e w3 ⟨v3, rfl, hb3, -, m3, rfl⟩
    have HBT3 : Hid (BtAt (w1.drewN (m2 + m3)) v3 (left l (0 + 8 + 8))) := hb3
    have HB3 : Hid (Below w.heap.size w (w1.drewN (m2 + m3))) := below_drewN HB1.out (m2 + m3)
    clear hb3 HBT2 HB1
    go_wp2_with fail
    go_ret2
    exact Gave.none rfl HB3.out
  · obtain ⟨o, ho⟩ : ∃ o : Nat, (K : Int) - 2 = (o : Int) := ⟨K - 2, by omega⟩
    have hno : n < o := by omega
    clear h5
    go_enter Tryz.func17, Tryz.ntmps17
    go_wp2_with fail
    refine (of_any w v l HSL.out hl HBY.out).mono ?_
    rintro e w1 ⟨v1, rfl, h1, hb1⟩
    have HBT1 : Hid (BtAt w1 v1 (left l 0)) := by show BtAt _ _ _; rw [left_zero]; exact BtAt.of_owns h1
    have HB1 := hid_of hb1
    clear h1 hb1
    go_wp2_with fail
    refine (rget_all' w1 v1 l 0 8 HBT1.out _ HG1.out).mono ?_
    rintro e w2 ⟨v2, rfl, hb2, -, m2, rfl⟩
    have HBT2 := hid_of hb2
    clear hb2 HBT1
    go_wp2_with fail
    refine (rget_all' (w1.drewN m2) v2 l _ 8 HBT2.out _ HG2.out).mono ?_
    rintro e w3 ⟨v3, rfl, hb3, -, m3, rfl⟩
    have HBT3 : Hid (BtAt (w1.drewN (m2 + m3)) v3 (left l (0 + 8 + 8))) := hb3
    have HB3 : Hid (Below w.heap.size w (w1.drewN (m2 + m3))) := below_drewN HB1.out (m2 + m3)
    clear hb3 HBT2 HB1
    go_wp2_with fail
    all_goals (go_ret2; exact Gave.none rfl HB3.out)
  · obtain ⟨o, ho⟩ : ∃ o : Nat, (K : Int) - 6 = (o : Int) := ⟨K - 6, by omega⟩
    have hno : n ≤ o := by omega
    clear h5
    go_enter Tryz.func17, Tryz.ntmps17
    go_wp2_with fail
    refine (of_any w v l HSL.out hl HBY.out).mono ?_
    rintro e w1 ⟨v1, rfl, h1, hb1⟩
    have HBT1 : Hid (BtAt w1 v1 (left l 0)) := by show BtAt _ _ _; rw [left_zero]; exact BtAt.of_owns h1
    have HB1 := hid_of hb1
    clear h1 hb1
    go_wp2_with fail
    refine (rget_all' w1 v1 l 0 8 HBT1.out _ HG1.out).mono ?_
    rintro e w2 ⟨v2, rfl, hb2, -, m2, rfl⟩
    have HBT2 := hid_of hb2
    clear hb2 HBT1
    go_wp2_with fail
    refine (rget_all' (w1.drewN m2) v2 l _ 8 HBT2.out _ HG2.out).mono ?_
    rintro e w3 ⟨v3, rfl, hb3, -, m3, rfl⟩
    have HBT3 : Hid (BtAt (w1.drewN (m2 + m3)) v3 (left l (0 + 8 + 8))) := hb3
    have HB3 : Hid (Below w.heap.size w (w1.drewN (m2 + m3))) := below_drewN HB1.out (m2 + m3)
    clear hb3 HBT2 HB1
    go_wp2_with fail
    all_goals (go_ret2; exact Gave.none rfl HB3.out)

end Go.Proofs.YthkfaackkcdcoabGreat

/- frame: a constant, the predictors' samples out of a reader. -/
namespace Go.Proofs.YthkfaackkcdcoabGreat
set_option linter.unusedVariables false
set_option linter.unusedSimpArgs false
open Go.RowKit Dg

theorem own_ns {w : World} {base cap : Nat} {a : Option Addr} {l : List Int} (h : OwnInts w base (.slice a l.length cap) l) : Ns w a cap l := by
  obtain ⟨a', c', e, hn, -, -⟩ := h.ns
  cases e
  exact hn
theorem coefsT_len (n : Nat) (ds : List Bool) (q : List Int × List Bool) (h : coefsT n ds = some q) : q.1.length = n := by
  induction n generalizing ds q with
  | zero => simp [coefsT] at h; subst h; rfl
  | succ n ih =>
    rw [coefsT] at h
    cases h1 : takeD ds 16 with
    | none => rw [h1] at h; cases h
    | some r =>
      rw [h1] at h
      simp only [Option.bind_some] at h
      cases h2 : coefsT n r.2 with
      | none => rw [h2] at h; cases h
      | some q' =>
        rw [h2] at h
        cases h
        simp [ih _ _ h2]

set_option maxRecDepth 100000 in
set_option maxHeartbeats 4000000 in
theorem pconstT_any (w : World) (b : Nat) (rv : Value) (l : List Nat) (p0 n : Nat) (h : RdAt w b rv l p0) (hlt : ∀ i, rv.ownBlock = some i → i < w.heap.size) (hn1 : 1 ≤ n) (hn : n ≤ 1000) (T : Option (List Int × List Bool)) (hT : T = (sampsT 1 (left l p0)).map fun q => (List.replicate n (q.1.getD 0 0), q.2)) :
    Calls Tryz.prog 59 #[.pointer (some ⟨b, 0, none⟩), .int .i64 (n : Int)] w fun e w' => TakeR w w' b rv l T e := by
  obtain ⟨i0, hi, hz0, hz1, hz2⟩ := info_parts Tryz.info3
  have HR := hid_of h
  have HLT := hid_of hlt
  have HBL := hid_of h.lt
  obtain ⟨S, hS⟩ : ∃ S, S = sampsT 1 (left l p0) := ⟨_, rfl⟩
  have HS := hid_of hS
  rw [← hS] at hT
  have HT := hid_of hT
  clear h hT hlt
  go_enter Tryz.func59, Tryz.ntmps59
  go_wp2_with fail
  refine (psamps_any w b rv l p0 1 HR.out HLT.out (by decide) _ rfl S HS.out).mono ?_
  intro e w1 hg
  cases S with
  | none =>
    obtain ⟨x, rfl, hk1⟩ := hg
    have HK1 := hid_of hk1
    have HN : Hid (T = none) := HT.out
    clear hk1 hS
    go_wp2_with fail
    go_ret2
    rw [HN.out]
    exact ⟨_, rfl, HK1.out⟩
  | some q =>
    have hq1 := sampsT_len _ _ _ hS.symm
    obtain ⟨qs, qr⟩ := q
    simp only at hq1
    obtain ⟨x0, rfl⟩ : ∃ x, qs = [x] := List.length_eq_one_iff.1 hq1
    obtain ⟨a1, c1, p1, rfl, ho1, hr1, hqr, hk1⟩ := hg
    simp only at ho1 hqr
    have HN : Hid (T = some (List.replicate n x0, left l p1)) := by show _ = _; rw [HT.out, hqr]; rfl
    have HO1 := hid_of ho1.at
    have HR1 := hid_of hr1
    have HK1 := hid_of hk1
    have hs1 : w.heap.size ≤ w1.heap.size := hk1.size
    clear ho1 hr1 hk1 hqr hq1 hS HS HT
    obtain ⟨TT, hTT⟩ : ∃ TT, TT = List.replicate n x0 := ⟨_, rfl⟩
    have HTL : Hid (TT.length = n) := by show _ = _; rw [hTT]; simp
    have HTG : Hid (∀ j, j < n → TT[j]? = some x0) := fun j hj => by rw [hTT]; simp [hj]
    rw [← hTT] at HN
    clear hTT
    go_wp2_with (at_make; go_must (refine wpList_make_full _ rfl _ _ 22 rfl w1.heap.size 3 i0 (.int .i64 0) 1 Tryz.underlying22 hi hz0 hz1 _ _ _ _ n rfl rfl rfl rfl (by rw [hz2]; omega) (by unfold maxLen; omega) (Nat.le_refl _) ?_))
    intro w2 hown hgr
    have HB2 : Hid (Below w1.heap.size w1 w2) := (Below.refl _ _).grown hgr (Nat.le_refl _) (fun k hk => by cases hk)
    have HO2 : Hid (OwnInts w2 w1.heap.size (.slice (some ⟨w1.heap.size, 0, none⟩) n n) (filled TT n 0)) := by
      show World.ownsRow _ _ _ _ _ _ _
      rw [filled_zero]
      have e := madeI n
      rw [Nat.mul_one] at e
      rw [← e, List.length_replicate]; exact hown
    obtain ⟨g, hg⟩ : ∃ g, g = w1.heap.size := ⟨_, rfl⟩
    have HGE : Hid (g = w1.heap.size) := hg
    rw [← hg] at HO2 ⊢
    clear hown hgr hg
    go_wp2_with fail
    go_loopw [21] (fun i wr => ∃ j : Nat, j ≤ n ∧ i = .int .i64 (j : Int) ∧ Hid (OwnInts wr g (.slice (some ⟨g, 0, none⟩) n n) (filled TT n j)) ∧ Hid (Below w1.heap.size w1 wr)) (fun i _ => n - (intOf i).toNat)
    case atStart => exact ⟨0, Nat.zero_le _, rfl, HO2.out, HB2.out⟩
    case round =>
      obtain ⟨j, hj, rfl, ho, hb⟩ := hrel
      by_cases hjn : j < n
      · obtain ⟨b1, o1, rfl, hc1⟩ := HO1.out.mono hb.out 0 x0 rfl
        rw [Nat.add_zero] at hc1
        obtain ⟨hrc, hrf⟩ := owni_cell ho.out (filled_get HTL.out hjn)
        have HTJ := hid_of (HTG.out j hjn)
        go_wp2_with fail
        refine ⟨⟨j + 1, by omega, by go_num, ?_, hb.out.setCell (by show _ ≤ g; rw [HGE.out]; exact Nat.le_refl _) _⟩, by (simp [intOf]) <;> omega⟩
        show OwnInts _ _ _ _
        rw [← filled_set HTL.out HTJ.out]
        exact ho.out.set j _ hjn
      · have e : j = n := by omega
        have HF : Hid (OwnInts wr w.heap.size (.slice (some ⟨g, 0, none⟩) TT.length n) TT) := by
          have h1 := ho.out
          rw [e, filled_end HTL.out] at h1
          show OwnInts _ _ _ _
          rw [HTL.out]
          exact h1.base (by rw [HGE.out]; exact hs1)
        have HRR : Hid (RdAt wr b rv l p1) := HR1.out.below hb.out
        have HKK : Hid (Kept (fun i => i = b) w wr) := HK1.out.trans (Kept.of_below hb.out)
        subst e
        clear ho
        go_wp2_with fail
        go_ret2
        rw [HN.out]
        exact ⟨some ⟨g, 0, none⟩, j, p1, by show _ = Ending.returned (.tuple #[.slice _ TT.length _, _]); rw [HTL.out]; rfl, HF.out, HRR.out, rfl, HKK.out⟩

set_option maxRecDepth 100000 in
set_option maxHeartbeats 4000000 in
theorem pfixT_any (w : World) (b : Nat) (rv : Value) (l : List Nat) (p0 n o : Nat) (h : RdAt w b rv l p0) (hlt : ∀ i, rv.ownBlock = some i → i < w.heap.size) (hn : n ≤ 64) (ho4 : o ≤ 4) (T : Option (List Int × List Bool))
    (hT : T = if n < o then none else (sampsT o (left l p0)).bind fun q => (resT (n - o) q.2).bind fun r => if (restOut q.1 r.1).2 = 0 then some ((restOut q.1 r.1).1, r.2) else none) :
    Calls Tryz.prog 61 #[.pointer (some ⟨b, 0, none⟩), .int .i64 (n : Int), .int .i64 (o : Int)] w fun e w' => TakeR w w' b rv l T e := by
  have HR := hid_of h
  have HLT := hid_of hlt
  have HBL := hid_of h.lt
  by_cases hno : n < o
  · rw [if_pos hno] at hT
    have HN := hid_of hT
    clear h hlt hT
    go_enter Tryz.func61, Tryz.ntmps61
    go_wp2_with fail
    go_ret2
    rw [HN.out]
    exact ⟨_, rfl, Kept.refl _ _⟩
  rw [if_neg hno] at hT
  obtain ⟨S, hS⟩ : ∃ S, S = sampsT o (left l p0) := ⟨_, rfl⟩
  have HS := hid_of hS
  rw [← hS] at hT
  obtain ⟨m, hm⟩ : ∃ m, m = n - o := ⟨_, rfl⟩
  have hmI : (n : Int) - (o : Int) = (m : Int) := by omega
  rw [← hm] at hT
  have HT := hid_of hT
  have hm64 : m ≤ 64 := by omega
  clear h hT hlt hm
  go_enter Tryz.func61, Tryz.ntmps61
  go_wp2_with fail
  refine (psamps_any w b rv l p0 o HR.out HLT.out (by omega) _ rfl S HS.out).mono ?_
  intro e w1 hg
  cases S with
  | none =>
    obtain ⟨x, rfl, hk1⟩ := hg
    have HK1 := hid_of hk1
    have HN : Hid (T = none) := HT.out
    clear hk1 hS
    go_wp2_with fail
    go_ret2
    rw [HN.out]
    exact ⟨_, rfl, HK1.out⟩
  | some q =>
    have hq1 := sampsT_len _ _ _ hS.symm
    obtain ⟨warm, qr⟩ := q
    simp only at hq1
    obtain ⟨a1, c1, p1, rfl, ho1, hr1, hqr, hk1⟩ := hg
    simp only at ho1 hqr
    have HO1 := hid_of ho1
    have HR1 := hid_of hr1
    have HK1 := hid_of hk1
    have hs1 : w.heap.size ≤ w1.heap.size := hk1.size
    have HLT1 : Hid (∀ i, rv.ownBlock = some i → i < w1.heap.size) := fun i hi => Nat.lt_of_lt_of_le (HLT.out i hi) hs1
    have hwl : warm.length ≤ 4 := by omega
    obtain ⟨Q, hQ⟩ : ∃ Q, Q = resT m (left l p1) := ⟨_, rfl⟩
    have HQ := hid_of hQ
    have HT2 : Hid (T = Q.bind fun r => if (restOut warm r.1).2 = 0 then some ((restOut warm r.1).1, r.2) else none) := by
      show _ = _
      rw [HT.out, hqr, hQ]
      rfl
    clear ho1 hr1 hk1 hqr hq1 hS HS HT
    go_wp2_with fail
    refine (presT_any w1 b rv l p1 m HR1.out HLT1.out (by omega) Q HQ.out).mono ?_
    intro e w2 hg
    cases Q with
    | none =>
      obtain ⟨x, rfl, hk2⟩ := hg
      have HK2 : Hid (Kept (fun i => i = b) w w2) := HK1.out.trans hk2
      have HN : Hid (T = none) := HT2.out
      clear hk2 hQ
      go_wp2_with fail
      go_ret2
      rw [HN.out]
      exact ⟨_, rfl, HK2.out⟩
    | some r =>
      obtain ⟨hrI, hrL⟩ := resT_i64 hQ.symm
      obtain ⟨res, rr⟩ := r
      simp only at hrI hrL
      obtain ⟨a2, c2, p2, rfl, ho2, hr2, hrr, hk2⟩ := hg
      simp only at ho2 hrr
      have HW2 : Hid (Ns w2 a1 c1 warm) := own_ns (own_keep HO1.out hk2 HBL.out)
      have HRS2 : Hid (IntsAt w2 a2 res) := ho2.at
      have HR2 := hid_of hr2
      have HK2 : Hid (Kept (fun i => i = b) w w2) := HK1.out.trans hk2
      have HI := hid_of hrI
      have hrl : res.length ≤ 100000 := by omega
      obtain ⟨⟨L, k⟩, hRO⟩ : ∃ R, R = restOut warm res := ⟨_, rfl⟩
      have HRO := hid_of hRO
      have HT3 : Hid (T = if k = 0 then some (L, left l p2) else none) := by
        show _ = _
        rw [HT2.out, hrr]
        simp only [Option.bind_some]
        rw [← hRO]
      clear ho2 hr2 hk2 hrr hrI hrL hQ HQ HT2 hRO
      go_wp2_with fail
      refine (frest_any w2 a1 a2 c1 c2 warm res HW2.out HRS2.out (by omega) hrl HI.out _ HRO.out).mono ?_
      rintro e w3 hg
      obtain ⟨a3, c3, rfl, ho3, -, hb3⟩ := hg.ok
      have HO3 : Hid (OwnInts w3 w.heap.size (.slice a3 L.length c3) L) := ho3.base HK2.out.size
      have HR3 : Hid (RdAt w3 b rv l p2) := HR2.out.below hb3
      have HK3 : Hid (Kept (fun i => i = b) w w3) := HK2.out.trans (Kept.of_below hb3)
      clear hg ho3 hb3
      by_cases hk0 : k = 0
      · subst hk0
        have HN : Hid (T = some (L, left l p2)) := by show _ = _; rw [HT3.out, if_pos rfl]
        go_wp2_with fail
        go_ret2
        rw [HN.out]
        exact ⟨a3, c3, p2, rfl, HO3.out, HR3.out, rfl, HK3.out⟩
      · have hkb : (k == 0) = false := beq_eq_false_iff_ne.2 hk0
        have HN : Hid (T = none) := by show _ = _; rw [HT3.out, if_neg hk0]
        go_wp2_with fail
        go_ret2
        rw [HN.out]
        exact ⟨_, rfl, HK3.out⟩

set_option maxRecDepth 100000 in
set_option maxHeartbeats 4000000 in
theorem plpcT_any (w : World) (b : Nat) (rv : Value) (l : List Nat) (p0 n o : Nat) (h : RdAt w b rv l p0) (hlt : ∀ i, rv.ownBlock = some i → i < w.heap.size) (hn : n ≤ 64) (ho1 : 1 ≤ o) (ho12 : o ≤ 12) (T : Option (List Int × List Bool))
    (hT : T = if n ≤ o then none else (sampsT o (left l p0)).bind fun q => (coefsT o q.2).bind fun c => (resT (n - o) c.2).bind fun r => if (lrestOut q.1 r.1 c.1).2 = 0 then some ((lrestOut q.1 r.1 c.1).1, r.2) else none) :
    Calls Tryz.prog 62 #[.pointer (some ⟨b, 0, none⟩), .int .i64 (n : Int), .int .i64 (o : Int)] w fun e w' => TakeR w w' b rv l T e := by
  have HR := hid_of h
  have HLT := hid_of hlt
  have HBL := hid_of h.lt
  by_cases hno : n ≤ o
  · rw [if_pos hno] at hT
    have HN := hid_of hT
    clear h hlt hT
    go_enter Tryz.func62, Tryz.ntmps62
    go_wp2_with fail
    go_ret2
    rw [HN.out]
    exact ⟨_, rfl, Kept.refl _ _⟩
  rw [if_neg hno] at hT
  obtain ⟨S, hS⟩ : ∃ S, S = sampsT o (left l p0) := ⟨_, rfl⟩
  have HS := hid_of hS
  rw [← hS] at hT
  obtain ⟨m, hm⟩ : ∃ m, m = n - o := ⟨_, rfl⟩
  have hmI : (n : Int) - (o : Int) = (m : Int) := by omega
  rw [← hm] at hT
  have HT := hid_of hT
  have hm64 : m ≤ 64 := by omega
  clear h hT hlt hm
  go_enter Tryz.func62, Tryz.ntmps62
  go_wp2_with fail
  refine (psamps_any w b rv l p0 o HR.out HLT.out (by omega) _ rfl S HS.out).mono ?_
  intro e w1 hg
  cases S with
  | none =>
    obtain ⟨x, rfl, hk1⟩ := hg
    have HK1 := hid_of hk1
    have HN : Hid (T = none) := HT.out
    clear hk1 hS
    go_wp2_with fail
    go_ret2
    rw [HN.out]
    exact ⟨_, rfl, HK1.out⟩
  | some q =>
    have hq1 := sampsT_len _ _ _ hS.symm
    obtain ⟨warm, qr⟩ := q
    simp only at hq1
    obtain ⟨a1, c1, p1, rfl, ho1', hr1, hqr, hk1⟩ := hg
    simp only at ho1' hqr
    have HO1 := hid_of ho1'
    have HR1 := hid_of hr1
    have HK1 := hid_of hk1
    have hs1 : w.heap.size ≤ w1.heap.size := hk1.size
    have HLT1 : Hid (∀ i, rv.ownBlock = some i → i < w1.heap.size) := fun i hi => Nat.lt_of_lt_of_le (HLT.out i hi) hs1
    have HBL1 : Hid (b < w1.heap.size) := Nat.lt_of_lt_of_le HBL.out hs1
    have hwl : warm.length ≤ 12 := by omega
    obtain ⟨C, hC⟩ : ∃ C, C = coefsT o (left l p1) := ⟨_, rfl⟩
    have HC : Hid (C = liftT 16 32768 o (left l p1)) := by show _ = _; rw [hC, liftT_coefs]
    have HT1 : Hid (T = C.bind fun c => (resT m c.2).bind fun r => if (lrestOut warm r.1 c.1).2 = 0 then some ((lrestOut warm r.1 c.1).1, r.2) else none) := by
      show _ = _
      rw [HT.out, hqr, hC]
      rfl
    clear ho1' hr1 hk1 hqr hq1 hS HS HT
    go_wp2_with fail
    refine (plift_any w1 b rv l p1 o 16 32768 _ HR1.out HLT1.out (by omega) (by decide) (by decide) (by decide) rfl C HC.out).mono ?_
    intro e w2 hg
    cases C with
    | none =>
      obtain ⟨x, rfl, hk2⟩ := hg
      have HK2 : Hid (Kept (fun i => i = b) w w2) := HK1.out.trans hk2
      have HN : Hid (T = none) := HT1.out
      clear hk2 hC
      go_wp2_with fail
      go_ret2
      rw [HN.out]
      exact ⟨_, rfl, HK2.out⟩
    | some c =>
      have hcl := coefsT_len _ _ _ hC.symm
      obtain ⟨cs, cr⟩ := c
      simp only at hcl
      obtain ⟨a2, c2, p2, rfl, ho2, hr2, hcr, hk2⟩ := hg
      simp only at ho2 hcr
      have HW2 : Hid (OwnInts w2 w.heap.size (.slice a1 warm.length c1) warm) := own_keep HO1.out hk2 HBL.out
      have HC2 := hid_of ho2
      have HR2 := hid_of hr2
      have HK2 : Hid (Kept (fun i => i = b) w w2) := HK1.out.trans hk2
      have hs2 : w.heap.size ≤ w2.heap.size := HK2.out.size
      have HLT2 : Hid (∀ i, rv.ownBlock = some i → i < w2.heap.size) := fun i hi => Nat.lt_of_lt_of_le (HLT.out i hi) hs2
      have hcl' : cs.length ≤ 12 := by omega
      obtain ⟨Q, hQ⟩ : ∃ Q, Q = resT m (left l p2) := ⟨_, rfl⟩
      have HQ := hid_of hQ
      have HT2 : Hid (T = Q.bind fun r => if (lrestOut warm r.1 cs).2 = 0 then some ((lrestOut warm r.1 cs).1, r.2) else none) := by
        show _ = _
        rw [HT1.out, hcr, hQ]
        rfl
      clear ho2 hr2 hk2 hcr hcl hC HC HT1
      go_wp2_with fail
      refine (presT_any w2 b rv l p2 m HR2.out HLT2.out (by omega) Q HQ.out).mono ?_
      intro e w3 hg
      cases Q with
      | none =>
        obtain ⟨x, rfl, hk3⟩ := hg
        have HK3 : Hid (Kept (fun i => i = b) w w3) := HK2.out.trans hk3
        have HN : Hid (T = none) := HT2.out
        clear hk3 hQ
        go_wp2_with fail
        go_ret2
        rw [HN.out]
        exact ⟨_, rfl, HK3.out⟩
      | some r =>
        obtain ⟨hrI, hrL⟩ := resT_i64 hQ.symm
        obtain ⟨res, rr⟩ := r
        simp only at hrI hrL
        obtain ⟨a3, c3, p3, rfl, ho3, hr3, hrr, hk3⟩ := hg
        simp only at ho3 hrr
        have HW3 : Hid (Ns w3 a1 c1 warm) := own_ns (own_keep HW2.out hk3 HBL.out)
        have HC3 : Hid (IntsAt w3 a2 cs) := (own_keep HC2.out hk3 HBL1.out).at
        have HRS3 : Hid (IntsAt w3 a3 res) := ho3.at
        have HR3 := hid_of hr3
        have HK3 : Hid (Kept (fun i => i = b) w w3) := HK2.out.trans hk3
        have HI := hid_of hrI
        have hrl : res.length ≤ 100000 := by omega
        obtain ⟨⟨L, k⟩, hRO⟩ : ∃ R, R = lrestOut warm res cs := ⟨_, rfl⟩
        have HRO := hid_of hRO
        have HT3 : Hid (T = if k = 0 then some (L, left l p3) else none) := by
          show _ = _
          rw [HT2.out, hrr]
          simp only [Option.bind_some]
          rw [← hRO]
        clear ho3 hr3 hk3 hrr hrI hrL hQ HQ HT2 hRO
        go_wp2_with fail
        refine (lrest_any w3 a1 a3 a2 c1 c3 c2 warm res cs HW3.out HRS3.out HC3.out (by omega) hrl (by omega) HI.out _ HRO.out).mono ?_
        rintro e w4 hg
        obtain ⟨a4, c4, rfl, ho4, -, hb4⟩ := hg.ok
        have HO4 : Hid (OwnInts w4 w.heap.size (.slice a4 L.length c4) L) := ho4.base HK3.out.size
        have HR4 : Hid (RdAt w4 b rv l p3) := HR3.out.below hb4
        have HK4 : Hid (Kept (fun i => i = b) w w4) := HK3.out.trans (Kept.of_below hb4)
        clear hg ho4 hb4
        by_cases hk0 : k = 0
        · subst hk0
          have HN : Hid (T = some (L, left l p3)) := by show _ = _; rw [HT3.out, if_pos rfl]
          go_wp2_with fail
          go_ret2
          rw [HN.out]
          exact ⟨a4, c4, p3, rfl, HO4.out, HR4.out, rfl, HK4.out⟩
        · have hkb : (k == 0) = false := beq_eq_false_iff_ne.2 hk0
          have HN : Hid (T = none) := by show _ = _; rw [HT3.out, if_neg hk0]
          go_wp2_with fail
          go_ret2
          rw [HN.out]
          exact ⟨_, rfl, HK4.out⟩

end Go.Proofs.YthkfaackkcdcoabGreat

/- frame: taken, Decode. -/
namespace Go.Proofs.YthkfaackkcdcoabGreat
set_option linter.unusedVariables false
set_option linter.unusedSimpArgs false
open Go.RowKit Dg

theorem decP_short {l : List Nat} (h : takeD (left l 0) 8 = none ∨ ∃ K, takeD (left l 0) 8 = some (K, left l 8) ∧ takeD (left l 8) 8 = none) : decP (unpack l) = none := by
  rw [← left_zero]
  unfold decP
  rcases h with h | ⟨K, h1, h2⟩
  · rw [h]; rfl
  · rw [h1]
    simp only [Option.bind_some]
    rw [h2]
    rfl
instance (K n : Nat) : Decidable (badHead K n) := by unfold badHead; infer_instance
theorem decP_at {l : List Nat} {K n : Nat} (h1 : takeD (left l 0) 8 = some (K, left l 8)) (h2 : takeD (left l 8) 8 = some (n, left l 16)) : decP (unpack l) = if badHead K n then none else (sampsT (ordOf K n) (left l 16)).bind fun q => bodyT K n q.1 q.2 := by
  rw [← left_zero]
  unfold decP
  rw [h1]
  simp only [Option.bind_some]
  rw [h2]
  rfl

set_option maxRecDepth 100000 in
set_option maxHeartbeats 8000000 in
theorem ptaken_any (w : World) (b : Nat) (rv : Value) (l : List Nat) (h : RdAt w b rv l 0) (hlt : ∀ i, rv.ownBlock = some i → i < w.heap.size) (T : Option (List Int × List Bool)) (hT : T = decP (unpack l)) :
    Calls Tryz.prog 31 #[.pointer (some ⟨b, 0, none⟩)] w fun e w' => TakeR w w' b rv l T e := by
  have HR := hid_of h
  have HLT := hid_of hlt
  have HBL := hid_of h.lt
  clear h hlt
  by_cases hlen : 8 ≤ (left l 0).length
  case neg =>
    obtain ⟨e1, -⟩ := takeD_none (n := 8) hlen
    have HLEN := hid_of hlen
    have HN : Hid (T = none) := by show _ = _; rw [hT]; exact decP_short (.inl e1)
    clear hT e1 hlen
    go_enter Tryz.func31, Tryz.ntmps31
    go_wp2_with fail
    refine (pget_no w b rv l 0 8 HR.out (by decide) HLEN.out _ rfl).mono ?_
    rintro e w1 ⟨rfl, hk1⟩
    have HK1 := hid_of hk1
    clear hk1
    go_wp2_with fail
    go_ret2
    rw [HN.out]
    exact ⟨_, rfl, HK1.out⟩
  obtain ⟨K, hK⟩ : ∃ K, K = num ((left l 0).take 8) := ⟨_, rfl⟩
  have hKb := num_small (left l 0) 8
  obtain ⟨e1, -⟩ := takeD_some (n := 8) (by decide) hlen
  rw [← hK] at e1 hKb
  rw [← left_drop] at e1
  have HLEN := hid_of hlen
  have HK := hid_of hK
  clear hlen hK
  by_cases hlen2 : 8 ≤ (left l 8).length
  case neg =>
    obtain ⟨e2, -⟩ := takeD_none (n := 8) hlen2
    have HLEN2 := hid_of hlen2
    have HN : Hid (T = none) := by show _ = _; rw [hT]; exact decP_short (.inr ⟨K, e1, e2⟩)
    clear hT e1 e2 hlen2
    go_enter Tryz.func31, Tryz.ntmps31
    go_wp2_with fail
    refine (pget_yes w b rv l 0 8 HR.out (by decide) HLEN.out _ rfl K HK.out).mono ?_
    rintro e w1 ⟨rfl, hr1, hk1⟩
    have HR1 := hid_of hr1
    have HK1 := hid_of hk1
    clear hr1 hk1
    go_wp2_with fail
    refine (pget_no w1 b rv l _ 8 HR1.out (by decide) HLEN2.out _ rfl).mono ?_
    rintro e w2 ⟨rfl, hk2⟩
    have HK2 : Hid (Kept (fun i => i = b) w w2) := HK1.out.trans hk2
    clear hk2
    go_wp2_with fail
    go_ret2
    rw [HN.out]
    exact ⟨_, rfl, HK2.out⟩
  obtain ⟨n, hn⟩ : ∃ n, n = num ((left l 8).take 8) := ⟨_, rfl⟩
  have hnb := num_small (left l 8) 8
  obtain ⟨e2, -⟩ := takeD_some (n := 8) (by decide) hlen2
  rw [← hn] at e2 hnb
  rw [← left_drop] at e2
  have HLEN2 := hid_of hlen2
  have HN2 := hid_of hn
  rw [decP_at e1 e2] at hT
  have hKb' : K < 256 := hKb
  have hnb' : n < 256 := hnb
  clear hlen2 hn e1 e2 hKb hnb
  by_cases hc : 1 ≤ n ∧ n ≤ 64
  case neg =>
    have HC : Hid (false = decide (1 ≤ (n : Int) ∧ (n : Int) ≤ 64)) := (decide_eq_false (by omega)).symm
    have HN : Hid (T = none) := by show _ = _; rw [hT, if_pos]; unfold badHead; omega
    clear hT hc
    go_enter Tryz.func31, Tryz.ntmps31
    go_wp2_with fail
    refine (pget_yes w b rv l 0 8 HR.out (by decide) HLEN.out _ rfl K HK.out).mono ?_
    rintro e w1 ⟨rfl, hr1, hk1⟩
    have HR1 := hid_of hr1
    have HK1 := hid_of hk1
    clear hr1 hk1
    go_wp2_with fail
    refine (pget_yes w1 b rv l _ 8 HR1.out (by decide) HLEN2.out _ rfl n HN2.out).mono ?_
    rintro e w2 ⟨rfl, hr2, hk2⟩
    have HK2 : Hid (Kept (fun i => i = b) w w2) := HK1.out.trans hk2
    clear hk2 hr2
    go_wp2_with (go_at_call 25; refine (pcount_any _ _ false HC.out).mono ?_; rintro e w3 ⟨rfl, rfl⟩)
    go_ret2
    rw [HN.out]
    exact ⟨_, rfl, HK2.out⟩
  obtain ⟨hn1, hn64⟩ := hc
  have HC : Hid (true = decide (1 ≤ (n : Int) ∧ (n : Int) ≤ 64)) := (decide_eq_true (by omega)).symm
  have HT := hid_of hT
  clear hT
  go_enter Tryz.func31, Tryz.ntmps31
  go_wp2_with fail
  refine (pget_yes w b rv l 0 8 HR.out (by decide) HLEN.out _ rfl K HK.out).mono ?_
  rintro e w1 ⟨rfl, hr1, hk1⟩
  have HR1 := hid_of hr1
  have HK1 := hid_of hk1
  clear hr1 hk1
  go_wp2_with fail
  refine (pget_yes w1 b rv l _ 8 HR1.out (by decide) HLEN2.out _ rfl n HN2.out).mono ?_
  rintro e w2 ⟨rfl, hr2, hk2⟩
  have HR2 : Hid (RdAt w2 b rv l 16) := hr2
  have HK2 : Hid (Kept (fun i => i = b) w w2) := HK1.out.trans hk2
  have hs2 : w.heap.size ≤ w2.heap.size := HK2.out.size
  have HLT2 : Hid (∀ i, rv.ownBlock = some i → i < w2.heap.size) := fun i hi => Nat.lt_of_lt_of_le (HLT.out i hi) hs2
  clear hr2 hk2
  have fin : ∀ (T' : Option (List Int × List Bool)) (w3 : World) (e : Ending), TakeR w2 w3 b rv l T' e → TakeR w w3 b rv l T' e := by
    intro T' w3 e h
    cases T' with
    | none =>
      obtain ⟨x, he, hk⟩ := h
      exact ⟨x, he, HK2.out.trans hk⟩
    | some q =>
      obtain ⟨a, c, p, he, ho, hr, hq, hk⟩ := h
      exact ⟨a, c, p, he, ho.base hs2, hr, hq, HK2.out.trans hk⟩
  have FIN := hid_of fin
  clear fin HR1 HK1 HLEN HLEN2 HK HN2
  rcases (by omega : K = 0 ∨ K = 1 ∨ (2 ≤ K ∧ K ≤ 6) ∨ (7 ≤ K ∧ K ≤ 18) ∨ 18 < K) with rfl | rfl | ⟨h1, h2⟩ | ⟨h1, h2⟩ | h1
  · have HTT : Hid (T = (sampsT 1 (left l 16)).map fun q => (List.replicate n (q.1.getD 0 0), q.2)) := by
      show _ = _
      rw [HT.out, if_neg (by unfold badHead; simp [ordOf]; omega)]
      have e : ordOf 0 n = 1 := by simp [ordOf]
      rw [e]
      cases sampsT 1 (left l 16) with
      | none => rfl
      | some q => rfl
    clear HT
    go_wp2_with (go_at_call 25; refine (pcount_any _ _ true HC.out).mono ?_; rintro e w3 ⟨rfl, rfl⟩)
    refine (pconstT_any w2 b rv l 16 n HR2.out HLT2.out hn1 (by omega) T HTT.out).mono ?_
    rintro e w3 h3
    have H3 := hid_of (FIN.out _ _ _ h3)
    obtain ⟨x, t, rfl⟩ := h3.form
    clear h3
    go_wp2_with fail
    go_ret2
    exact H3.out
  · have HTT : Hid (T = sampsT n (left l 16)) := by
      show _ = _
      rw [HT.out, if_neg (by unfold badHead; simp [ordOf]; omega)]
      have e : ordOf 1 n = n := by simp [ordOf]
      rw [e]
      cases sampsT n (left l 16) with
      | none => rfl
      | some q => rfl
    clear HT
    go_wp2_with (go_at_call 25; refine (pcount_any _ _ true HC.out).mono ?_; rintro e w3 ⟨rfl, rfl⟩)
    refine (psamps_any w2 b rv l 16 n HR2.out HLT2.out (by omega) _ rfl T HTT.out).mono ?_
    rintro e w3 h3
    have H3 := hid_of (FIN.out _ _ _ h3)
    obtain ⟨x, t, rfl⟩ := h3.form
    clear h3
    go_wp2_with fail
    go_ret2
    exact H3.out
  · obtain ⟨o, ho⟩ : ∃ o : Nat, (o : Int) = (K : Int) - 2 := ⟨K - 2, by omega⟩
    have HO := hid_of ho
    have hkb0 : ((K : Int) == 0) = false := beq_eq_false_iff_ne.2 (by omega)
    have hkb1 : ((K : Int) == 1) = false := beq_eq_false_iff_ne.2 (by omega)
    have ho4 : o ≤ 4 := by omega
    have HTT : Hid (T = if n < o then none else (sampsT o (left l 16)).bind fun q => (resT (n - o) q.2).bind fun r => if (restOut q.1 r.1).2 = 0 then some ((restOut q.1 r.1).1, r.2) else none) := by
      show _ = _
      have eo : ordOf K n = o := by unfold ordOf; rw [if_neg (by omega), if_neg (by omega), if_pos (by omega)]; omega
      rw [HT.out]
      by_cases hno : n < o
      · rw [if_pos hno, if_pos (by unfold badHead; omega)]
      · rw [if_neg hno, if_neg (by unfold badHead; omega), eo]
        cases sampsT o (left l 16) with
        | none => rfl
        | some q =>
          simp only [Option.bind_some]
          unfold bodyT
          rw [if_neg (by omega), if_neg (by omega), if_pos (by omega), eo]
    clear HT ho
    go_wp2_with first
      | (go_at_call 25; refine (pcount_any _ _ true HC.out).mono ?_; rintro e w3 ⟨rfl, rfl⟩)
      | (go_at_call 54; refine (pfix_any _ _ (by omega) (by omega) _ HO.out).mono ?_; rintro e w4 ⟨rfl, rfl⟩)
    refine (pfixT_any w2 b rv l 16 n o HR2.out HLT2.out hn64 ho4 T HTT.out).mono ?_
    rintro e w3 h3
    have H3 := hid_of (FIN.out _ _ _ h3)
    obtain ⟨x, t, rfl⟩ := h3.form
    clear h3
    go_wp2_with fail
    go_ret2
    exact H3.out
  · obtain ⟨o, ho⟩ : ∃ o : Nat, (o : Int) = (K : Int) - 6 := ⟨K - 6, by omega⟩
    have HO := hid_of ho
    have hkb0 : ((K : Int) == 0) = false := beq_eq_false_iff_ne.2 (by omega)
    have hkb1 : ((K : Int) == 1) = false := beq_eq_false_iff_ne.2 (by omega)
    have ho1 : 1 ≤ o := by omega
    have ho12 : o ≤ 12 := by omega
    have HTT : Hid (T = if n ≤ o then none else (sampsT o (left l 16)).bind fun q => (coefsT o q.2).bind fun c => (resT (n - o) c.2).bind fun r => if (lrestOut q.1 r.1 c.1).2 = 0 then some ((lrestOut q.1 r.1 c.1).1, r.2) else none) := by
      show _ = _
      have eo : ordOf K n = o := by unfold ordOf; rw [if_neg (by omega), if_neg (by omega), if_neg (by omega)]; omega
      rw [HT.out]
      by_cases hno : n ≤ o
      · rw [if_pos hno, if_pos (by unfold badHead; omega)]
      · rw [if_neg hno, if_neg (by unfold badHead; omega), eo]
        cases sampsT o (left l 16) with
        | none => rfl
        | some q =>
          simp only [Option.bind_some]
          unfold bodyT
          rw [if_neg (by omega), if_neg (by omega), if_neg (by omega), eo]
    clear HT ho
    go_wp2_with first
      | (go_at_call 25; refine (pcount_any _ _ true HC.out).mono ?_; rintro e w3 ⟨rfl, rfl⟩)
      | (go_at_call 56; refine (plpc_any _ _ (by omega) (by omega) _ HO.out).mono ?_; rintro e w4 ⟨rfl, rfl⟩)
    refine (plpcT_any w2 b rv l 16 n o HR2.out HLT2.out hn64 ho1 ho12 T HTT.out).mono ?_
    rintro e w3 h3
    have H3 := hid_of (FIN.out _ _ _ h3)
    obtain ⟨x, t, rfl⟩ := h3.form
    clear h3
    go_wp2_with fail
    go_ret2
    exact H3.out
  · have hkb0 : ((K : Int) == 0) = false := beq_eq_false_iff_ne.2 (by omega)
    have hkb1 : ((K : Int) == 1) = false := beq_eq_false_iff_ne.2 (by omega)
    have HN : Hid (T = none) := by show _ = _; rw [HT.out, if_pos]; unfold badHead; omega
    clear HT
    go_wp2_with (go_at_call 25; refine (pcount_any _ _ true HC.out).mono ?_; rintro e w3 ⟨rfl, rfl⟩)
    go_ret2
    rw [HN.out]
    exact ⟨_, rfl, HK2.out⟩

set_option maxRecDepth 100000 in
set_option maxHeartbeats 4000000 in
theorem fdec_any (w : World) (v : Value) (l : List Nat) (h : SlAt w v l) (hl : l.length ≤ 1000000) (hby : ∀ x ∈ l, x < 256) (R : List Int × Int) (hR : R = decOut 2 l) :
    Calls Tryz.prog 16 #[v] w fun e w' => Gave w w' R e := by
  have HL := hid_of h
  have HBY := hid_of hby
  rw [decOut_of, decD_P] at hR
  obtain ⟨T, hT⟩ : ∃ T, T = decP (unpack l) := ⟨_, rfl⟩
  rw [← hT] at hR
  have HT := hid_of hT
  have HRR := hid_of hR
  clear h hby hR hT
  go_enter Tryz.func16, Tryz.ntmps16
  go_wp2_with fail
  refine (newReader_any w v l HL.out (by omega) HBY.out).mono ?_
  rintro e w1 ⟨b, rfl, hbw, hr1, hb1⟩
  have hrv : ∀ i, (Value.slice (some ⟨w.heap.size, 0, none⟩) l.length l.length).ownBlock = some i → i < w1.heap.size := by
    intro i hi
    have h1 := hr1.lt
    simp [Value.ownBlock] at hi
    omega
  generalize hrvE : Value.slice (some ⟨w.heap.size, 0, none⟩) l.length l.length = rv at hr1 hrv
  have HR1 := hid_of hr1
  have HB1 := hid_of hb1
  have HLT := hid_of hrv
  have HBW := hid_of hbw
  clear hr1 hb1 hrv hbw hrvE
  go_wp2_with fail
  refine (ptaken_any w1 b rv l HR1.out HLT.out T HT.out).mono ?_
  intro e w2 hg
  have key : Kept (fun i => i = b) w1 w2 → Below w.heap.size w w2 := fun hk => hk.below_of HB1.out (fun k hf => by have := HBW.out; omega) HB1.out.size
  cases T with
  | none =>
    obtain ⟨x, rfl, hk2⟩ := hg
    have HB2 := hid_of (key hk2)
    have HN : Hid (R = ([], 2)) := HRR.out
    clear hk2 key
    go_wp2_with fail
    go_ret2
    exact Gave.none HN.out HB2.out
  | some q =>
    obtain ⟨xs, qr⟩ := q
    obtain ⟨a2, c2, p2, rfl, ho2, hr2, hqr, hk2⟩ := hg
    simp only at ho2 hqr
    have HB2 := hid_of (key hk2)
    have HO2 : Hid (OwnInts w2 w.heap.size (.slice a2 xs.length c2) xs) := ho2.base HB1.out.size
    have HR2 := hid_of hr2
    obtain ⟨q, hq⟩ : ∃ q, q = noOnes (left l p2) := ⟨_, rfl⟩
    have HQ := hid_of hq
    have HR3 : Hid (R = outOf (if q = true then some xs else none)) := by
      show _ = _
      rw [HRR.out, hqr, hq]
      rfl
    clear ho2 hr2 hqr hk2 key hq HRR
    cases q with
    | true =>
      go_wp2_with (go_at_call 32; refine (rest_all' w2 b rv l p2 HR2.out true HQ.out).mono ?_; rintro e w3 ⟨rfl, rfl⟩)
      go_ret2
      rw [HR3.out]
      exact ⟨_, rfl, HO2.out, HB2.out⟩
    | false =>
      go_wp2_with (go_at_call 32; refine (rest_all' w2 b rv l p2 HR2.out false HQ.out).mono ?_; rintro e w3 ⟨rfl, rfl⟩)
      go_ret2
      exact Gave.none HR3.out HB2.out

end Go.Proofs.YthkfaackkcdcoabGreat
