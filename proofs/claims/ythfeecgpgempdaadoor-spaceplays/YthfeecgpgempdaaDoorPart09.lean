/- The texts SOrder, SgW, MpDoor, SpRef1, SpRef2, AppWhole, one behind the other. -/
import Derived.Test.YthfeecgpgempdaaDoorPart07
import Derived.Test.YthfeecgpgempdaaDoorPart08
import Derived.Test.YthfeecgpgempdaaDoorPart03
import Derived.BigQuiet
import Derived.Deep.RegionHeld
import Derived.Deep.CutRange
import Derived.Test.YthfeecgpgempdaaDoorRows
import Derived.Test.YthfeecgpgempdaaDoorTie
import Derived.Test.YthfeecgpgempdaaDoorCards
import Derived.ProofKit
import Derived.LaidMore
import Derived.MakeChecks
import Derived.Stop.Joined
import Derived.Lib.LaidTab
import Derived.SevenTiedAt
import Derived.Test.YthfeecgpgempdaaDoorPart02
import Derived.Test.YthfeecgpgempdaaDoorPart04
import Derived.Deep.RegionLaw

/- SpaceOrder over the bundle. -/
namespace Go.Proofs.YthfeecgpgempdaaDoor
set_option linter.unusedVariables false
set_option linter.unusedSimpArgs false
open Go.RowKit Dg

theorem Sb.write {Si : SpP} {Ok : World → Prop} (S : Spc Si Ok) {W w w' : World} {X : Nat → Prop} {b g : Nat} {s : Sd} (h : Sb Si Ok W X w b s) (hk : Kept (fun k => k = g) w w') (hX : X g) (hg : W.heap.size ≤ g) : Sb Si Ok W X w' b s :=
  h.keep S (hk.mono fun k _ e => by subst e; exact .inl ⟨hX, hg⟩) (fun k e => .inl e)
theorem bls_at {B : List Bool} {k : Nat} (hk : k < B.length) : (bls B)[k]? = some (.bool (B.getD k false)) := by rw [bls_get, List.getD_eq_getElem?_getD, List.getElem?_eq_getElem hk]; rfl
/-- One of the second row is written, then one of the first. -/
theorem so_two {Si : SpP} {Ok : World → Prop} (S : Spc Si Ok) {W w : World} {b g1 g2 : Nat} {s : Sd} {t : TypeId} {H T : List Bool} (hB : Sb Si Ok W (fun k => k = g1 ∨ k = g2) w b s) (hA : ArrV t w g1 (bls H)) (hT : ArrV t w g2 (bls T)) (hG : W.heap.size ≤ g1 ∧ W.heap.size ≤ g2 ∧ g1 ≠ g2) (p : Nat) (hp : p < H.length) (v : Bool) :
    ((w.setCell ⟨g2, p, none⟩ (.bool v)).cell? ⟨g1, p, none⟩ = some (.bool (H.getD p false)) ∧ (w.setCell ⟨g2, p, none⟩ (.bool v)).frozen? ⟨g1, p, none⟩ = false) ∧
    Sb Si Ok W (fun k => k = g1 ∨ k = g2) ((w.setCell ⟨g2, p, none⟩ (.bool v)).setCell ⟨g1, p, none⟩ (.bool false)) b s ∧
    ArrV t ((w.setCell ⟨g2, p, none⟩ (.bool v)).setCell ⟨g1, p, none⟩ (.bool false)) g1 (bls (H.set p false)) ∧
    ArrV t ((w.setCell ⟨g2, p, none⟩ (.bool v)).setCell ⟨g1, p, none⟩ (.bool false)) g2 (bls (T.set p v)) := by
  have k1 : Kept (fun k => k = g2) w (w.setCell ⟨g2, p, none⟩ (.bool v)) := Kept.setCell _ _ _ rfl
  have k2 : Kept (fun k => k = g1) (w.setCell ⟨g2, p, none⟩ (.bool v)) ((w.setCell ⟨g2, p, none⟩ (.bool v)).setCell ⟨g1, p, none⟩ (.bool false)) := Kept.setCell _ _ _ rfl
  have a1 : ArrV t (w.setCell ⟨g2, p, none⟩ (.bool v)) g1 (bls H) := hA.kept k1 hG.2.2
  have a2 : ArrV t (w.setCell ⟨g2, p, none⟩ (.bool v)) g2 (bls (T.set p v)) := by rw [bls_set]; exact hT.set p _
  refine ⟨a1.cell (bls_at hp), (hB.write S k1 (.inr rfl) hG.2.1).write S k2 (.inl rfl) hG.1, ?_, a2.kept k2 (fun e => hG.2.2 e.symm)⟩
  rw [bls_set]
  exact a1.set p _
set_option maxRecDepth 100000 in
set_option maxHeartbeats 16000000 in
theorem sorder_any {Si : SpP} {Ok : World → Prop} (S : Spc Si Ok) (FR : SpFree Si Ok) (US : SpUsedQ Si Ok) (OF : SpOfQ Si Ok) (W : World) (hok : Ok W) (a : Option Addr) (len cap : Nat) (zs : List Int) (f0 : Int) (hr : IsRow .i64 W a len cap zs) (hf : I64 f0) :
    Calls Tryd.prog 7 #[.slice a len cap, .int .i64 f0] W fun e W' => e = .returned (.bool true) ∧ Below W.heap.size W W' := by
  obtain ⟨l, hl, hl64, hla, hlc, hcm, -, hlb⟩ := hr.ints
  have hlen : len ≤ 9223372036854775807 := by unfold maxLen at hcm; omega
  have HL := hid_of hl
  have H6 := hid_of hl64
  have HI := hid_of hla
  have HLB := hid_of hlb
  obtain ⟨hf1, hf2⟩ := hf
  obtain ⟨f, hff⟩ : ∃ f : Nat, (f : Int) = f0 % 4 := ⟨(f0 % 4).toNat, by omega⟩
  have hf4 : f ≤ 3 := by omega
  have HW : Hid (Calls Tryd.prog 8 #[.int .i64 f0, .int .i64 4] W fun e w' => e = .returned (.int .i64 (f : Int)) ∧ W = w') := by rw [hff]; exact within_any f0 4 W hf1 hf2 (by decide) (by decide)
  have HN := hid_of (sb_new S hok (Kept.refl (fun k => W.heap.size ≤ k) W) 14 f (by decide) (by decide) (by omega))
  clear hok hff hl hl64 hla hlb hr hlc hcm hf1 hf2
  go_enter Tryd.func7, Tryd.ntmps7
  go_wp2_with fail
  refine HW.out.mono ?_
  rintro e w1 ⟨rfl, rfl⟩
  go_wp2_with fail
  refine HN.out.mono ?_
  rintro e w1 ⟨b, rfl, h1, -⟩
  have H1 := hid_of h1
  clear h1 HN HW
  go_wp2_with fail
  obtain ⟨g1, hg1⟩ : ∃ g, g = w1.heap.size := ⟨_, rfl⟩
  obtain ⟨g2, hg2⟩ : ∃ g, g = w1.heap.size + 1 := ⟨_, rfl⟩
  obtain ⟨w2, hw2⟩ : ∃ w2, w2 = w1.alloc (.cells #[.bool false, .bool false, .bool false, .bool false, .bool false, .bool false, .bool false, .bool false, .bool false, .bool false, .bool false, .bool false, .bool false, .bool false] 49) := ⟨_, rfl⟩
  obtain ⟨w3, hw3⟩ : ∃ w3, w3 = w2.alloc (.cells #[.bool false, .bool false, .bool false, .bool false, .bool false, .bool false, .bool false, .bool false, .bool false, .bool false, .bool false, .bool false, .bool false, .bool false] 49) := ⟨_, rfl⟩
  have hs2 : w2.heap.size = w1.heap.size + 1 := by rw [hw2]; simp
  have hs3 : w3.heap.size = w2.heap.size + 1 := by rw [hw3]; simp
  have HA1 : Hid (ArrV 49 w3 g1 (bls (List.replicate 14 false))) := by
    have e : ArrV 49 w2 g1 (bls (List.replicate 14 false)) := by rw [hw2, hg1]; exact ArrV.new _ _ _
    rw [hw3]
    exact e.newer ((Below.refl _ _).alloc (Nat.le_refl _) _)
  have HA2 : Hid (ArrV 49 w3 g2 (bls (List.replicate 14 false))) := by
    show ArrV _ _ _ _
    rw [hw3, hg2, ← hs2]
    exact ArrV.new _ _ _
  have HB2 : Hid (Sb Si Ok W (fun k => k = g1 ∨ k = g2) w3 b (newSd 14 f)) := by
    refine H1.out.keep S ?_ (fun k e => .inr ?_)
    · rw [hw3, hw2]; exact (Kept.alloc _ _ _).trans (Kept.alloc _ _ _)
    · rcases e with e | e <;> omega
  have HG : Hid (W.heap.size ≤ g1 ∧ W.heap.size ≤ g2 ∧ g1 ≠ g2) := by
    have := H1.out.kept.size
    exact ⟨by omega, by omega, by omega⟩
  have HS2 := hid_of (OS.new (f := f) (by omega))
  rw [← hw2, ← hw3, ← hg2, ← hg1]
  clear hw2 hw3 hg1 hg2 hs2 hs3 H1
  go_loopw [9] (fun v wr => ∃ (i : Nat) (s : Sd) (H T : List Bool), i ≤ len ∧ i ≤ 40 ∧ v = .int .i64 (i : Int) ∧ Hid (OS s f H T) ∧ Hid (Sb Si Ok W (fun k => k = g1 ∨ k = g2) wr b s) ∧ Hid (ArrV 49 wr g1 (bls H)) ∧ Hid (ArrV 49 wr g2 (bls T))) (fun v _ => len - (intOf v).toNat)
  case atStart => exact ⟨0, _, _, _, Nat.zero_le _, Nat.zero_le _, rfl, HS2, HB2, HA1, HA2⟩
  case round =>
    obtain ⟨i, s, H, T, hil', hi40, rfl, HS, HB, HA, HT⟩ := hrel
    have hway : (decide ((i : Int) < (len : Int)) = true ∧ decide ((i : Int) < 40) = true ∧ i < len ∧ i < 40) ∨ ((decide ((i : Int) < (len : Int)) = true ∧ decide ((i : Int) < 40) = false ∧ i < len) ∨ (decide ((i : Int) < (len : Int)) = false ∧ decide (i < len) = false ∧ True)) := by
      by_cases e1 : i < len
      · by_cases e2 : i < 40
        · exact .inl ⟨decide_eq_true (by omega), decide_eq_true (by omega), e1, e2⟩
        · exact .inr (.inl ⟨decide_eq_true (by omega), decide_eq_false (by omega), e1⟩)
      · exact .inr (.inr ⟨decide_eq_false (by omega), decide_eq_false e1, trivial⟩)
    rcases hway with ⟨hd1, hd2, hil, hi2⟩ | hout
    · obtain ⟨x, hx⟩ : ∃ x, l[i]? = some x := ⟨_, List.getElem?_eq_getElem (by rw [HL.out]; exact hil)⟩
      obtain ⟨x1, x2⟩ := H6.out x (List.mem_of_getElem? hx)
      obtain ⟨ab, off, rfl, hcx⟩ := HI.out.kept HB.out.kept (fun y hy e => by have := HLB.out y hy (by omega); omega) i x hx
      obtain ⟨p, hp⟩ : ∃ p : Nat, (p : Int) = x % 14 := ⟨(x % 14).toNat, by omega⟩
      have hp14 : p < 14 := by omega
      have HWX : Hid (Calls Tryd.prog 8 #[.int .i64 x, .int .i64 14] wr fun e w' => e = .returned (.int .i64 (p : Int)) ∧ wr = w') := by rw [hp]; exact within_any x 14 wr x1 x2 (by decide) (by decide)
      have ht : -9223372036854775808 ≤ x.tdiv 14 ∧ x.tdiv 14 ≤ 9223372036854775807 := by
        obtain ⟨k, hk | hk⟩ := Int.eq_nat_or_neg x
        · have e : (k : Int).tdiv 14 = ((k / 14 : Nat) : Int) := (Int.ofNat_tdiv k 14).symm
          rw [hk, e]
          omega
        · have e : (k : Int).tdiv 14 = ((k / 14 : Nat) : Int) := (Int.ofNat_tdiv k 14).symm
          rw [hk, Int.neg_tdiv, e]
          omega
      obtain ⟨d, hd⟩ : ∃ d : Int, d = (x.tdiv 14) % 4 := ⟨_, rfl⟩
      have hd4 : 0 ≤ d ∧ d < 4 := by omega
      have HWD : Hid (Calls Tryd.prog 8 #[.int .i64 (x.tdiv 14), .int .i64 4] wr fun e w' => e = .returned (.int .i64 d) ∧ wr = w') := by rw [hd]; exact within_any (x.tdiv 14) 4 wr ht.1 ht.2 (by decide) (by decide)
      obtain ⟨hb, hhb⟩ : ∃ hb, hb = H.getD p false := ⟨_, rfl⟩
      obtain ⟨tb, htb⟩ : ∃ tb, tb = T.getD p false := ⟨_, rfl⟩
      have hHc : (bls H)[p]? = some (.bool hb) := by rw [bls_get, hhb, List.getD_eq_getElem?_getD, List.getElem?_eq_getElem (by rw [HS.out.hl]; exact hp14)]; rfl
      have hTc : (bls T)[p]? = some (.bool tb) := by rw [bls_get, htb, List.getD_eq_getElem?_getD, List.getElem?_eq_getElem (by rw [HS.out.tl]; exact hp14)]; rfl
      obtain ⟨r1, r2⟩ := HA.out.cell hHc
      obtain ⟨r3, r4⟩ := HT.out.cell hTc
      have HHB := hid_of hhb
      have HTB := hid_of htb
      have HHC := hid_of hHc
      have HTC := hid_of hTc
      have hsm : sumC s.C ≤ 1000000 := by have := HS.out.sum; omega
      have HSM := hid_of hsm
      clear hx hp ht hd hhb htb hHc hTc hsm
      rcases (by omega : d = 0 ∨ d = 1 ∨ (d ≠ 0 ∧ d ≠ 1)) with rfl | rfl | ⟨n0, n1⟩
      · as_aux_lemma =>
        obtain ⟨o1, o2⟩ := HS.out.drop hp14
        have HQ := hid_of (sb_drop S (HB.out.draws S 1) (p : Int) ⟨by omega, by omega⟩ HSM.out hb (by rw [o1]; exact HHB.out) (s.lessS (p : Int)) rfl)
        have HS2 := hid_of o2
        have hne : (hb != hb) = false := by cases hb <;> rfl
        clear o1 o2
        go_wp2_with fail
        refine HWX.out.mono ?_
        rintro e w4 ⟨rfl, rfl⟩
        go_wp2_with fail
        refine HWD.out.mono ?_
        rintro e w4 ⟨rfl, rfl⟩
        go_upto_region 24 with fail
        go_region_held (fun W' => W'.cell? ⟨g1, p, none⟩ = some (.bool hb)) (first | assumption | go_keep) (first
          | (go_at_call 14; refine HQ.out.mono ?_; rintro e w5 ⟨rfl, h5, hk5⟩; have HB5 := hid_of h5; have hk5' : Kept (fun k => ¬ (k < W.heap.size ∨ (k = g1 ∨ k = g2))) wr w5 := (Kept.refl _ _).drew.trans hk5; have HA5 := hid_of (HA.out.kept hk5' (fun e => e (.inr (.inl rfl)))); have HT5 := hid_of (HT.out.kept hk5' (fun e => e (.inr (.inr rfl)))); obtain ⟨y1, y2⟩ := HA5.out.cell HHC.out; obtain ⟨y3, y4⟩ := HT5.out.cell HTC.out; clear h5 hk5 hk5'))
        all_goals
          have HTW := hid_of (fun v => so_two S HB5.out HA5.out HT5.out HG.out p (by rw [HS.out.hl]; exact hp14) v)
          cases tb with
          | true =>
            obtain ⟨⟨z1, z2⟩, z3, z4, z5⟩ := HTW.out true
            rw [← HHB.out] at z1
            have HB7 := hid_of z3
            have HA7 := hid_of z4
            have HT7 := hid_of z5
            have HS7 : Hid (OS (s.lessS (p : Int)) f (H.set p false) (T.set p true)) := by have e := HS2.out; rw [← HTB.out] at e; exact e
            clear z3 z4 z5 HTW
            all_goals (try go_wp2_with fail)
            all_goals refine ⟨?_, by (simp [intOf]) <;> omega⟩
            all_goals first
              | exact ⟨i + 1, _, _, _, by omega, by omega, by go_num, HS7, HB7, HA7, HT7⟩
              | ((repeat apply Exists.intro); refine ⟨?_, rfl⟩; exact ⟨i + 1, _, _, _, by omega, by omega, by go_num, HS7, HB7, HA7, HT7⟩)
          | false =>
            obtain ⟨⟨z1, z2⟩, z3, z4, z5⟩ := HTW.out hb
            rw [← HHB.out] at z1
            have HB7 := hid_of z3
            have HA7 := hid_of z4
            have HT7 := hid_of z5
            have HS7 : Hid (OS (s.lessS (p : Int)) f (H.set p false) (T.set p hb)) := by have e := HS2.out; rw [← HTB.out, ← HHB.out, Bool.false_or] at e; exact e
            clear z3 z4 z5 HTW
            all_goals (try go_wp2_with fail)
            all_goals refine ⟨?_, by (simp [intOf]) <;> omega⟩
            all_goals first
              | exact ⟨i + 1, _, _, _, by omega, by omega, by go_num, HS7, HB7, HA7, HT7⟩
              | ((repeat apply Exists.intro); refine ⟨?_, rfl⟩; exact ⟨i + 1, _, _, _, by omega, by omega, by go_num, HS7, HB7, HA7, HT7⟩)
      · as_aux_lemma =>
        have H0 : Hid ((waitTo T 0).length = 0) := rfl
        go_wp2_with fail
        refine HWX.out.mono ?_
        rintro e w4 ⟨rfl, rfl⟩
        go_wp2_with fail
        refine HWD.out.mono ?_
        rintro e w4 ⟨rfl, rfl⟩
        go_wp2_with fail
        go_loopw [11, 114] (fun c v wq => ∃ (j n : Nat), j ≤ 14 ∧ n ≤ j ∧ v = .int .i64 (j : Int) ∧ c = .int .i64 (n : Int) ∧ Hid (n = (waitTo T j).length) ∧ Hid (Sb Si Ok W (fun k => k = g1 ∨ k = g2) wq b s) ∧ Hid (ArrV 49 wq g1 (bls H)) ∧ Hid (ArrV 49 wq g2 (bls (offTo T j)))) (fun _ v _ => 14 - (intOf v).toNat)
        case atStart => exact ⟨0, 0, Nat.zero_le _, Nat.le_refl _, rfl, rfl, rfl, HB, HA, HT⟩
        case round =>
          obtain ⟨j, n, hj, hnj, rfl, rfl, HNC, HBj, HAj, HTj⟩ := hrel
          by_cases hj14 : j < 14
          · have hjT : j < T.length := by rw [HS.out.tl]; exact hj14
            have hcj : (bls (offTo T j))[j]? = some (.bool (T.getD j false)) := by rw [bls_get, offTo_get T j hjT]; rfl
            have hst := waitTo_step T j
            obtain ⟨tj, htj⟩ : ∃ tj, tj = T.getD j false := ⟨_, rfl⟩
            rw [← htj] at hcj hst
            obtain ⟨y1, y2⟩ := HTj.out.cell hcj
            have HT2 : Hid (ArrV 49 (wr.setCell ⟨g2, j, none⟩ (.bool false)) g2 (bls (offTo T (j + 1)))) := by
              show ArrV _ _ _ _
              rw [← offTo_set T j hjT, bls_set]
              exact HTj.out.set j _
            have k1 : Kept (fun k => k = g2) wr (wr.setCell ⟨g2, j, none⟩ (.bool false)) := Kept.setCell _ _ _ rfl
            have HA2 := hid_of (HAj.out.kept k1 HG.out.2.2)
            have HB2 := hid_of (HBj.out.write S k1 (.inr rfl) HG.out.2.1)
            clear hcj htj hjT k1
            cases tj with
            | true =>
              have HN2 : Hid (n + 1 = (waitTo T (j + 1)).length) := by show _ = _; rw [hst, ← HNC.out]; rfl
              clear hst
              go_wp2_with fail
              refine ⟨?_, by (simp [intOf]) <;> omega⟩
              first
                | exact ⟨j + 1, n + 1, by omega, by omega, by go_num, by go_num, HN2, HB2, HA2, HT2⟩
                | ((repeat apply Exists.intro); refine ⟨?_, rfl⟩; exact ⟨j + 1, n + 1, by omega, by omega, by go_num, by go_num, HN2, HB2, HA2, HT2⟩)
            | false =>
              have HN2 : Hid (n = (waitTo T (j + 1)).length) := by show _ = _; rw [hst, ← HNC.out]; rfl
              clear hst
              go_wp2_with fail
              refine ⟨?_, by (simp [intOf]) <;> omega⟩
              first
                | exact ⟨j + 1, n, by omega, by omega, by go_num, rfl, HN2, HB2, HA2, HT2⟩
                | ((repeat apply Exists.intro); refine ⟨?_, rfl⟩; exact ⟨j + 1, n, by omega, by omega, by go_num, rfl, HN2, HB2, HA2, HT2⟩)
          · obtain rfl : j = 14 := by omega
            have hoff := offTo_all T HS.out.tl
            rw [hoff] at HTj
            obtain ⟨o1, o2⟩ := HS.out.commit
            have HC := hid_of (sb_commit S HBj.out HSM.out n (HNC.out.trans o1.symm) s.commitS rfl)
            have HS2 := hid_of o2
            have hnn : ((n : Int) != (n : Int)) = false := by simp
            clear hoff o1 o2
            go_wp2_with fail
            refine HC.out.mono ?_
            rintro e w5 ⟨rfl, h5, hk5⟩
            have HB5 := hid_of h5
            have HA5 := hid_of (HAj.out.kept hk5 (fun e => e (.inr (.inl rfl))))
            have HT5 := hid_of (HTj.out.kept hk5 (fun e => e (.inr (.inr rfl))))
            clear h5 hk5
            go_wp2_with fail
            refine ⟨?_, by (simp [intOf]) <;> omega⟩
            first
              | exact ⟨i + 1, _, _, _, by omega, by omega, by go_num, HS2, HB5, HA5, HT5⟩
              | ((repeat apply Exists.intro); refine ⟨?_, rfl⟩; exact ⟨i + 1, _, _, _, by omega, by omega, by go_num, HS2, HB5, HA5, HT5⟩)
      · as_aux_lemma =>
        have b0 : (d == 0) = false := beq_eq_false_iff_ne.2 n0
        have b1 : (d == 1) = false := beq_eq_false_iff_ne.2 n1
        have HF := hid_of (IsLst.first H T)
        clear n0 n1
        go_wp2_with fail
        refine HWX.out.mono ?_
        rintro e w4 ⟨rfl, rfl⟩
        go_wp2_with fail
        refine HWD.out.mono ?_
        rintro e w4 ⟨rfl, rfl⟩
        go_wp2_with fail
        go_loopw [13, 14] (fun c v wq => ∃ (m : Nat) (z zl : Int), f ≤ m ∧ m ≤ 14 ∧ v = .int .i64 z ∧ c = .int .i64 zl ∧ Hid (z = (m : Int) - 1) ∧ Hid (IsLst H T m zl) ∧ wr = wq) (fun _ v _ => (intOf v + 1).toNat)
        case atStart => exact ⟨14, 13, -1, by omega, Nat.le_refl _, rfl, rfl, (by show (13 : Int) = _; omega), HF, rfl⟩
        case round =>
          obtain ⟨m, z, zl, hfm, hm14, rfl, rfl, HZ, HLS, rfl⟩ := hrel
          have hz := HZ.out
          by_cases hmf : f < m
          · obtain ⟨j, rfl⟩ : ∃ j, m = j + 1 := ⟨m - 1, by omega⟩
            obtain rfl : z = (j : Int) := by omega
            have hj14 : j < 14 := by omega
            have hq1 : decide ((f : Int) ≤ (j : Int)) = true := decide_eq_true (by omega)
            obtain ⟨hj, hhj⟩ : ∃ hj, hj = H.getD j false := ⟨_, rfl⟩
            obtain ⟨tj, htj⟩ : ∃ tj, tj = T.getD j false := ⟨_, rfl⟩
            obtain ⟨y1, -⟩ := HA.out.cell (bls_at (B := H) (k := j) (by rw [HS.out.hl]; exact hj14))
            obtain ⟨y3, -⟩ := HT.out.cell (bls_at (B := T) (k := j) (by rw [HS.out.tl]; exact hj14))
            rw [← hhj] at y1
            rw [← htj] at y3
            have HHJ := hid_of hhj
            have HTJ := hid_of htj
            clear hz HZ hhj htj
            cases hj with
            | true =>
              have HL2 : Hid (IsLst H T j zl) := HLS.out.used (by rw [← HHJ.out]; rfl)
              have HZ2 : Hid ((j : Int) - 1 = (j : Int) - 1) := rfl
              go_wp2_with fail
              refine ⟨?_, by (simp [intOf]) <;> omega⟩
              first
                | exact ⟨j, (j : Int) - 1, zl, by omega, by omega, by go_num, rfl, HZ2, HL2, by trivial⟩
                | ((repeat apply Exists.intro); refine ⟨?_, rfl⟩; exact ⟨j, (j : Int) - 1, zl, by omega, by omega, by go_num, rfl, HZ2, HL2, by trivial⟩)
            | false =>
              cases tj with
              | true =>
                have HL2 : Hid (IsLst H T j zl) := HLS.out.used (by rw [← HTJ.out, Bool.or_true])
                have HZ2 : Hid ((j : Int) - 1 = (j : Int) - 1) := rfl
                go_wp2_with fail
                refine ⟨?_, by (simp [intOf]) <;> omega⟩
                first
                  | exact ⟨j, (j : Int) - 1, zl, by omega, by omega, by go_num, rfl, HZ2, HL2, by trivial⟩
                  | ((repeat apply Exists.intro); refine ⟨?_, rfl⟩; exact ⟨j, (j : Int) - 1, zl, by omega, by omega, by go_num, rfl, HZ2, HL2, by trivial⟩)
              | false =>
                have HL2 : Hid (IsLst H T j (j : Int)) := IsLst.free hj14 HHJ.out.symm HTJ.out.symm
                have HZ2 : Hid ((j : Int) - 1 = (j : Int) - 1) := rfl
                go_wp2_with fail
                refine ⟨?_, by (simp [intOf]) <;> omega⟩
                first
                  | exact ⟨j, (j : Int) - 1, (j : Int), by omega, by omega, by go_num, rfl, HZ2, HL2, by trivial⟩
                  | ((repeat apply Exists.intro); refine ⟨?_, rfl⟩; exact ⟨j, (j : Int) - 1, (j : Int), by omega, by omega, by go_num, rfl, HZ2, HL2, by trivial⟩)
          · obtain rfl : m = f := by omega
            have hq1 : decide ((m : Int) ≤ z) = false := decide_eq_false (by omega)
            rcases HS.out.take HLS.out with ⟨k, hk14, rfl, e1, e2⟩ | ⟨rfl, e1, e2⟩
            · have HC := hid_of (sb_take S HB.out HSM.out (k : Int) 0 e1 s.takeS rfl)
              have HS2 := hid_of e2
              have hkk : ((k : Int) != (k : Int)) = false := by simp
              have hk0 : decide (0 ≤ (k : Int)) = true := decide_eq_true (by omega)
              clear e1 e2 hz
              go_wp2_with fail
              refine HC.out.mono ?_
              rintro e w5 ⟨rfl, h5, hk5⟩
              have HB5 := hid_of h5
              have HA5 := hid_of (HA.out.kept hk5 (fun e => e (.inr (.inl rfl))))
              have HT5 := hid_of (HT.out.kept hk5 (fun e => e (.inr (.inr rfl))))
              obtain ⟨y1, y2⟩ := HA5.out.cell (bls_at (B := H) (k := k) (by rw [HS.out.hl]; exact hk14))
              have k1 : Kept (fun k => k = g1) w5 (w5.setCell ⟨g1, k, none⟩ (.bool true)) := Kept.setCell _ _ _ rfl
              have HB6 := hid_of (HB5.out.write S k1 (.inl rfl) HG.out.1)
              have HT6 := hid_of (HT5.out.kept k1 (fun e => HG.out.2.2 e.symm))
              have HA6 : Hid (ArrV 49 (w5.setCell ⟨g1, k, none⟩ (.bool true)) g1 (bls (H.set k true))) := by show ArrV _ _ _ _; rw [bls_set]; exact HA5.out.set k _
              clear h5 hk5 k1
              go_wp2_with fail
              refine ⟨?_, by (simp [intOf]) <;> omega⟩
              first
                | exact ⟨i + 1, _, _, _, by omega, by omega, by go_num, HS2, HB6, HA6, HT6⟩
                | ((repeat apply Exists.intro); refine ⟨?_, rfl⟩; exact ⟨i + 1, _, _, _, by omega, by omega, by go_num, HS2, HB6, HA6, HT6⟩)
            · have HC := hid_of (sb_take S HB.out HSM.out 0 3 e1 s e2.symm)
              clear e1 e2 hz
              go_wp2_with fail
              refine HC.out.mono ?_
              rintro e w5 ⟨rfl, h5, hk5⟩
              have HB5 := hid_of h5
              have HA5 := hid_of (HA.out.kept hk5 (fun e => e (.inr (.inl rfl))))
              have HT5 := hid_of (HT.out.kept hk5 (fun e => e (.inr (.inr rfl))))
              clear h5 hk5
              go_wp2_with fail
              refine ⟨?_, by (simp [intOf]) <;> omega⟩
              first
                | exact ⟨i + 1, _, _, _, by omega, by omega, by go_num, HS, HB5, HA5, HT5⟩
                | ((repeat apply Exists.intro); refine ⟨?_, rfl⟩; exact ⟨i + 1, _, _, _, by omega, by omega, by go_num, HS, HB5, HA5, HT5⟩)
    · have hsm : sumC s.C ≤ 1000000 := by have := HS.out.sum; omega
      have HSM := hid_of hsm
      clear hsm
      rcases hout with ⟨hd1, hd2, hd3⟩ | ⟨hd1, hd2, hd3⟩
      all_goals as_aux_lemma =>
        go_wp2_with fail
        go_loopw [129] (fun v wr => ∃ j : Nat, j ≤ 14 ∧ v = .int .i64 (j : Int) ∧ Hid (Sb Si Ok W (fun k => k = g1 ∨ k = g2) wr b s) ∧ Hid (ArrV 49 wr g1 (bls H)) ∧ Hid (ArrV 49 wr g2 (bls T))) (fun v _ => 14 - (intOf v).toNat)
        case atStart => exact ⟨0, Nat.zero_le _, rfl, HB, HA, HT⟩
        case round =>
          obtain ⟨j, hj, rfl, HB, HA, HT⟩ := hrel
          by_cases hj14 : j < 14
          · obtain ⟨hj1, hhj⟩ : ∃ hj, hj = H.getD j false := ⟨_, rfl⟩
            obtain ⟨tj, htj⟩ : ∃ tj, tj = T.getD j false := ⟨_, rfl⟩
            obtain ⟨y1, -⟩ := HA.out.cell (bls_at (B := H) (k := j) (by rw [HS.out.hl]; exact hj14))
            obtain ⟨y3, -⟩ := HT.out.cell (bls_at (B := T) (k := j) (by rw [HS.out.tl]; exact hj14))
            have hof := HS.out.of hj14
            have hu := HS.out.u hj14
            rw [← hhj] at y1 hof hu
            rw [← htj] at y3 hu
            obtain ⟨c, hc⟩ : ∃ c : Nat, c = if hj1 = true then 1 else 0 := ⟨_, rfl⟩
            rw [← hc] at hof
            have hcb : c ≤ 1 := by rw [hc]; split <;> omega
            have hce : ((c : Int) == 1) = hj1 := by rw [hc]; cases hj1 <;> rfl
            obtain ⟨R, hR⟩ : ∃ R, R = s.uZ (j : Int) := ⟨_, rfl⟩
            have hRv := hR.trans hu
            have HQO := hid_of (sb_ofQ S OF HB.out (j : Int) ⟨by omega, by omega⟩ HSM.out c hof.symm)
            have HQU := hid_of (sb_usedQ S US HB.out (j : Int) ⟨by omega, by omega⟩ HSM.out R hR)
            have HBN : Hid (∀ q, Sb Si Ok W (fun k => k = g1 ∨ k = g2) (wr.drewN q) b s) := fun q => HB.out.draws S q
            have HAN : Hid (∀ q, ArrV 49 (wr.drewN q) g1 (bls H)) := fun q => HA.out.newer (below_drewN (Below.refl _ _) q)
            have HTN : Hid (∀ q, ArrV 49 (wr.drewN q) g2 (bls T)) := fun q => HT.out.newer (below_drewN (Below.refl _ _) q)
            have hee : (hj1 != hj1) = false := by cases hj1 <;> rfl
            clear hhj htj hof hu hc hR
            by_cases hjf : j < f
            · obtain rfl : R = true := by rw [hRv, decide_eq_true hjf]; rfl
              have hb1 : decide ((j : Int) < (f : Int)) = true := decide_eq_true (by omega)
              have hb2 : decide (j < f) = true := decide_eq_true hjf
              clear hRv
              go_wp2_with fail
              go_quiet (first | (go_at_call 13; exact HQO.out _) | (go_at_call 16; exact HQU.out _))
              go_wp2_with fail
              refine ⟨?_, by (simp [intOf]) <;> omega⟩
              first
                | exact ⟨j + 1, by omega, by go_num, HBN.out _, HAN.out _, HTN.out _⟩
                | ((repeat apply Exists.intro); refine ⟨?_, rfl⟩; exact ⟨j + 1, by omega, by go_num, HBN.out _, HAN.out _, HTN.out _⟩)
            · have hb1 : decide ((j : Int) < (f : Int)) = false := decide_eq_false (by omega)
              have hb2 : decide (j < f) = false := decide_eq_false hjf
              rw [hb2, Bool.false_or] at hRv
              subst hRv
              cases hj1 with
              | true =>
                go_wp2_with fail
                go_quiet (first | (go_at_call 13; exact HQO.out _) | (go_at_call 16; exact HQU.out _))
                go_wp2_with fail
                refine ⟨?_, by (simp [intOf]) <;> omega⟩
                first
                  | exact ⟨j + 1, by omega, by go_num, HBN.out _, HAN.out _, HTN.out _⟩
                  | ((repeat apply Exists.intro); refine ⟨?_, rfl⟩; exact ⟨j + 1, by omega, by go_num, HBN.out _, HAN.out _, HTN.out _⟩)
              | false =>
                have HQU2 : Hid (∀ d, Calls Tryd.prog 16 #[.pointer (some ⟨b, 0, none⟩), .int .i64 (j : Int)] (wr.drewN d) fun e w' => e = .returned (.bool tj) ∧ ∃ k, w' = wr.drewN k) := HQU.out
                have htt : (tj != tj) = false := by cases tj <;> rfl
                go_wp2_with fail
                go_quiet (first | (go_at_call 13; exact HQO.out _) | (go_at_call 16; exact HQU2.out _))
                go_wp2_with fail
                refine ⟨?_, by (simp [intOf]) <;> omega⟩
                first
                  | exact ⟨j + 1, by omega, by go_num, HBN.out _, HAN.out _, HTN.out _⟩
                  | ((repeat apply Exists.intro); refine ⟨?_, rfl⟩; exact ⟨j + 1, by omega, by go_num, HBN.out _, HAN.out _, HTN.out _⟩)
          · obtain rfl : j = 14 := by omega
            go_wp2_with fail
            refine (wakes13_any S FR wr (HB.out.okw S)).mono ?_
            rintro e w12 ⟨rfl, hb12⟩
            have HE := hid_of (HB.out.newer S hb12).end_
            clear hb12
            go_wp2_with fail
            go_ret
            exact ⟨rfl, HE.out⟩

end Go.Proofs.YthfeecgpgempdaaDoor

/- The walks of layer 13's laws over the space that landed: the bundle put in. -/
namespace Go.Proofs.YthfeecgpgempdaaDoor

theorem ssharesW_any : type_of% (sshares_any spcW spShareW spFreeW spUsedW.used spOfW.of spWaitsW) := sshares_any spcW spShareW spFreeW spUsedW.used spOfW.of spWaitsW
theorem skeepsW_any : type_of% (skeeps_any spcW spKeepW spFreeW spUsedW spOfW spWaitsW) := skeeps_any spcW spKeepW spFreeW spUsedW spOfW spWaitsW
theorem swaitsW_any : type_of% (swaits_any spcW spShareW spFreeW spOfW.of spWaitsW) := swaits_any spcW spShareW spFreeW spOfW.of spWaitsW
theorem sorderW_any : type_of% (sorder_any spcW spFreeW spUsedW spOfW) := sorder_any spcW spFreeW spUsedW spOfW

end Go.Proofs.YthfeecgpgempdaaDoor

/- The library's table as a row lists it; a start that meets the condition. -/
namespace Go.Proofs.YthfeecgpgempdaaDoor
set_option linter.unusedVariables false
set_option linter.unusedSimpArgs false
open Go.ChangeShapes Go.WideShapes Go.ChangeAt Go.RowKit Go.Deep

def doorL : List (String × DataW Unit) := [("math/bits.deBruijn64tab", Rows.laid_math_bits_deBruijn64tab)]
set_option maxRecDepth 100000 in
theorem door_met (os : Os) (args : Array Value) : laidMetH Tryd.prog doorL ((World.doorLaid Tryd.prog 400 os).forCall (fun _ _ => 0) ⟨#[], args, []⟩).memory :=
  laidMetH_of_parts3 (fuel := 8) (laidMet_of_run' 8 (by kernel_rfl) (by kernel_rfl)) (by kernel_rfl) (by kernel_rfl)
theorem door_glob : Tryd.prog.globalNamed "math/bits.deBruijn64tab" = some 0 := by kernel_rfl
theorem door_type : (Tryd.prog.globals[0]?).map (·.type) = some 83 := by kernel_rfl
theorem door_one : Tryd.prog.cellsOf 5 = 1 := by kernel_rfl
theorem door_all : Tryd.prog.cellsOf 83 = 64 := by kernel_rfl
theorem tab_of_laid {W : World} (h : laidMetH Tryd.prog doorL W) : Tab W := by
  rw [MakeChecks.laidMetH_plain _ _ _ (by kernel_rfl)] at h
  have h2 : laidMet Tryd.prog (("math/bits.deBruijn64tab", Lib.tabData .u8 (Lib.deBruijn64tab.map fun n : Nat => (n : Int))) :: []) W := h
  have h3 := Lib.tabIs_of_head door_glob door_type Tryd.underlying83 Tryd.underlying5 door_one door_all h2
  intro j hj
  have h4 := h3.cell door_glob j (by rw [List.length_map]; exact hj)
  rw [h4]
  congr 2
  rw [List.getD_eq_getElem?_getD, List.getD_eq_getElem?_getD, List.getElem?_map]
  cases Lib.deBruijn64tab[j]? <;> rfl

end Go.Proofs.YthfeecgpgempdaaDoor

/- The document's space in memory: what it holds; Of, Used, Take, Share, Drop, Free. -/
namespace Go.Proofs.YthfeecgpgempdaaDoor
set_option linter.unusedVariables false
set_option linter.unusedSimpArgs false
open Go.RowKit Dg

/-- Counts as numbers. -/
def kI (C : List Nat) : List Int := C.map fun x : Nat => (x : Int)
theorem length_kI (C : List Nat) : (kI C).length = C.length := by simp [kI]
theorem kI_get (C : List Nat) (k : Nat) : (kI C)[k]? = C[k]?.map fun x : Nat => (x : Int) := by simp [kI]
theorem kI_set (C : List Nat) (k x : Nat) : kI (C.set k x) = (kI C).set k (x : Int) := by simp [kI]
theorem kI_nought (n : Nat) : kI (List.replicate n 0) = List.replicate n 0 := by simp [kI]
/-- The document's space in memory: its fields at r, its counts at gc, what waits at gv. -/
structure RsIs (w : World) (r gc gv cc cv : Nat) (s : Sd) : Prop where
  box : w.heap[r]? = some (.cells #[.int .i64 (s.N : Int), .int .i64 (s.fx : Int), .slice (some ⟨gc, 0, none⟩) s.N cc, .slice (some ⟨gv, 0, none⟩) s.N cv] 61 (0, 0))
  rowC : w.ownsRow 0 3 1 (.slice (some ⟨gc, 0, none⟩) s.N cc) s.N (i64s (kI s.C))
  rowV : w.ownsRow 0 4 1 (.slice (some ⟨gv, 0, none⟩) s.N cv) s.N (bls s.V)
  ne : r ≠ gc ∧ r ≠ gv ∧ gc ≠ gv
theorem RsIs.lenC {w : World} {r gc gv cc cv : Nat} {s : Sd} (h : RsIs w r gc gv cc cv s) : s.C.length = s.N := by
  have := h.rowC.1
  simpa [length_kI] using this
theorem RsIs.lenV {w : World} {r gc gv cc cv : Nat} {s : Sd} (h : RsIs w r gc gv cc cv s) : s.V.length = s.N := by
  have := h.rowV.1
  simpa using this
theorem RsIs.cell {w : World} {r gc gv cc cv : Nat} {s : Sd} (h : RsIs w r gc gv cc cv s) : w.cell? ⟨r, 0, none⟩ = some (.int .i64 (s.N : Int)) ∧ w.cell? ⟨r, 1, none⟩ = some (.int .i64 (s.fx : Int)) ∧ w.cell? ⟨r, 2, none⟩ = some (.slice (some ⟨gc, 0, none⟩) s.N cc) ∧ w.cell? ⟨r, 3, none⟩ = some (.slice (some ⟨gv, 0, none⟩) s.N cv) := by
  have e := h.box
  refine ⟨?_, ?_, ?_, ?_⟩ <;> (unfold World.cell?; rw [e]; rfl)
theorem RsIs.lt {w : World} {r gc gv cc cv : Nat} {s : Sd} (h : RsIs w r gc gv cc cv s) : r < w.heap.size ∧ gc < w.heap.size ∧ gv < w.heap.size :=
  ⟨(Array.getElem?_eq_some_iff.1 h.box).1, (World.ownsRow.lt h.rowC gc rfl).2, (World.ownsRow.lt h.rowV gv rfl).2⟩
theorem RsIs.kept {w w' : World} {r gc gv cc cv : Nat} {s : Sd} {X : Nat → Prop} (h : RsIs w r gc gv cc cv s) (hk : Kept X w w') (h1 : ¬ X r) (h2 : ¬ X gc) (h3 : ¬ X gv) : RsIs w' r gc gv cc cv s :=
  { h with
    box := by rw [hk.block r h.lt.1 h1]; exact h.box
    rowC := ownsRow_other h.rowC hk (fun k e => by cases e; exact h2)
    rowV := ownsRow_other h.rowV hk (fun k e => by cases e; exact h3) }
theorem RsIs.newer {w w' : World} {r gc gv cc cv : Nat} {s : Sd} (h : RsIs w r gc gv cc cv s) (hb : Below w.heap.size w w') : RsIs w' r gc gv cc cv s :=
  h.kept (X := fun k => w.heap.size ≤ k) ⟨hb.os, hb.tape, hb.output, hb.size, fun k hk hf => hb.block k hk⟩ (by have := h.lt; omega) (by have := h.lt; omega) (by have := h.lt; omega)
theorem RsIs.draws {w : World} {r gc gv cc cv : Nat} {s : Sd} (h : RsIs w r gc gv cc cv s) (n : Nat) : RsIs (w.drewN n) r gc gv cc cv s :=
  h.kept (X := fun _ => False) ⟨rfl, rfl, rfl, Nat.le_refl _, fun _ _ _ => rfl⟩ (fun h => h) (fun h => h) (fun h => h)
theorem own_num {w : World} {base g n c : Nat} {l : List Int} {j : Nat} {x : Int} (h : w.ownsRow base 3 1 (.slice (some ⟨g, 0, none⟩) n c) n (i64s l)) (hx : l[j]? = some x) :
    w.cell? ⟨g, j, none⟩ = some (.int .i64 x) ∧ w.frozen? ⟨g, j, none⟩ = false := by
  have hl : l.length = n := by have := h.1; simpa using this
  have hj : j < l.length := (List.getElem?_eq_some_iff.1 hx).1
  rcases h.2 with ⟨e1, e2⟩ | ⟨g', cap', cur, hv, hgb, hh, hncap, _, hcs, htake⟩
  · cases e1
  · cases hv
    refine ⟨?_, by simp [World.frozen?, hh]⟩
    have e : (i64s l)[j]? = some (.int .i64 x) := by rw [i64s_get, hx]; rfl
    rw [← htake, List.getElem?_take, if_pos (by omega)] at e
    simp only [World.cell?, hh]
    simpa using e
theorem RsIs.getC {w : World} {r gc gv cc cv : Nat} {s : Sd} (h : RsIs w r gc gv cc cv s) {j x : Nat} (hx : s.C[j]? = some x) : w.cell? ⟨gc, j, none⟩ = some (.int .i64 (x : Int)) ∧ w.frozen? ⟨gc, j, none⟩ = false :=
  own_num h.rowC (by rw [kI_get, hx]; rfl)
theorem RsIs.getV {w : World} {r gc gv cc cv : Nat} {s : Sd} (h : RsIs w r gc gv cc cv s) {j : Nat} {x : Bool} (hx : s.V[j]? = some x) : w.cell? ⟨gv, j, none⟩ = some (.bool x) ∧ w.frozen? ⟨gv, j, none⟩ = false :=
  bl_own_cell h.rowV hx
theorem RsIs.setC {w : World} {r gc gv cc cv : Nat} {s : Sd} (h : RsIs w r gc gv cc cv s) {j : Nat} (hj : j < s.N) (y : Nat) : RsIs (w.setCell ⟨gc, j, none⟩ (.int .i64 (y : Int))) r gc gv cc cv { s with C := s.C.set j y } := by
  have hk : Kept (fun k => k = gc) w (w.setCell ⟨gc, j, none⟩ (.int .i64 (y : Int))) := Kept.setCell _ _ _ rfl
  refine ⟨?_, ?_, ownsRow_other h.rowV hk (fun k e => by cases e; exact h.ne.2.2.symm), h.ne⟩
  · rw [hk.block r h.lt.1 h.ne.1]; exact h.box
  · have e := ownsRow_set h.rowC j hj (.int .i64 (y : Int))
    have e2 : (i64s (kI s.C)).set j (.int .i64 (y : Int)) = i64s (kI (s.C.set j y)) := by rw [kI_set]; simp [i64s]
    rw [e2] at e
    exact e
theorem RsIs.setV {w : World} {r gc gv cc cv : Nat} {s : Sd} (h : RsIs w r gc gv cc cv s) {j : Nat} (hj : j < s.N) (y : Bool) : RsIs (w.setCell ⟨gv, j, none⟩ (.bool y)) r gc gv cc cv { s with V := s.V.set j y } := by
  have hk : Kept (fun k => k = gv) w (w.setCell ⟨gv, j, none⟩ (.bool y)) := Kept.setCell _ _ _ rfl
  refine ⟨?_, ownsRow_other h.rowC hk (fun k e => by cases e; exact h.ne.2.2), ?_, h.ne⟩
  · rw [hk.block r h.lt.1 h.ne.2.1]; exact h.box
  · have e := ownsRow_set h.rowV j hj (.bool y)
    rw [← bls_set] at e
    exact e

set_option maxRecDepth 100000 in
set_option maxHeartbeats 1000000 in
theorem rsof_any (w : World) (r gc gv cc cv : Nat) (s : Sd) (h : RsIs w r gc gv cc cv s) (i : Int) (hi : I64 i) (x : Nat) (hx : x = s.of i) :
    Calls Tryd.prog 44 #[.pointer (some ⟨r, 0, none⟩), .int .i64 i] w fun e w' => e = .returned (.int .i64 (x : Int)) ∧ w = w' := by
  obtain ⟨c0, -, c2, -⟩ := h.cell
  obtain ⟨n, hn⟩ : ∃ n, n = s.N := ⟨_, rfl⟩
  obtain ⟨hi1, hi2⟩ := hi
  have hlen := h.lenC
  rw [← hn] at c0 c2 hlen
  rcases (by omega : i < 0 ∨ (0 ≤ i ∧ i < (n : Int)) ∨ (0 ≤ i ∧ (n : Int) ≤ i)) with h1 | ⟨h1, h2⟩ | ⟨h1, h2⟩
  · obtain rfl : x = 0 := by rw [hx]; exact s.of_no (by omega)
    clear h hn hx hlen
    go_enter Tryd.func44, Tryd.ntmps44
    go_wp2_with fail
    go_ret
    exact ⟨rfl, rfl⟩
  · obtain ⟨k, rfl⟩ : ∃ k : Nat, i = (k : Int) := ⟨i.toNat, by omega⟩
    have hk : k < n := by omega
    have hb : decide ((n : Int) ≤ (k : Int)) = false := decide_eq_false (by omega)
    have hg : s.C[k]? = some x := by
      rw [hx, s.of_nat (by omega), List.getD_eq_getElem?_getD, List.getElem?_eq_getElem (by omega)]
      rfl
    obtain ⟨c4, -⟩ := h.getC hg
    clear h hn hx hlen hg
    go_enter Tryd.func44, Tryd.ntmps44
    go_wp2_with fail
    go_ret
    exact ⟨rfl, rfl⟩
  · obtain rfl : x = 0 := by rw [hx]; exact s.of_no (by omega)
    have hb : decide ((n : Int) ≤ i) = true := decide_eq_true (by omega)
    clear h hn hx hlen
    go_enter Tryd.func44, Tryd.ntmps44
    go_wp2_with fail
    go_ret
    exact ⟨rfl, rfl⟩
set_option maxRecDepth 100000 in
set_option maxHeartbeats 2000000 in
theorem rsused_any (w : World) (r gc gv cc cv : Nat) (s : Sd) (h : RsIs w r gc gv cc cv s) (i : Int) (hi : I64 i) (R : Bool) (hR : R = s.uZ i) :
    Calls Tryd.prog 43 #[.pointer (some ⟨r, 0, none⟩), .int .i64 i] w fun e w' => e = .returned (.bool R) ∧ w = w' := by
  obtain ⟨c0, c1, c2, c3⟩ := h.cell
  obtain ⟨n, hn⟩ : ∃ n, n = s.N := ⟨_, rfl⟩
  obtain ⟨f, hf⟩ : ∃ f, f = s.fx := ⟨_, rfl⟩
  obtain ⟨hi1, hi2⟩ := hi
  have hlen := h.lenC
  have hlev := h.lenV
  rw [← hn] at c0 c2 c3 hlen hlev
  rw [← hf] at c1
  rcases (by omega : i < 0 ∨ (0 ≤ i ∧ i < (n : Int)) ∨ (0 ≤ i ∧ (n : Int) ≤ i)) with h1 | ⟨h1, h2⟩ | ⟨h1, h2⟩
  · obtain rfl : R = true := by rw [hR]; exact s.uZ_no (by omega)
    clear h hn hf hR hlen hlev
    go_enter Tryd.func43, Tryd.ntmps43
    go_wp2_with fail
    go_ret
    exact ⟨rfl, rfl⟩
  · obtain ⟨k, rfl⟩ : ∃ k : Nat, i = (k : Int) := ⟨i.toNat, by omega⟩
    have hk : k < n := by omega
    have hb : decide ((n : Int) ≤ (k : Int)) = false := decide_eq_false (by omega)
    obtain ⟨x, hx⟩ : ∃ x, s.C[k]? = some x := ⟨_, List.getElem?_eq_getElem (by omega)⟩
    obtain ⟨y, hy⟩ : ∃ y, s.V[k]? = some y := ⟨_, List.getElem?_eq_getElem (by omega)⟩
    obtain ⟨c4, -⟩ := h.getC hx
    obtain ⟨c5, -⟩ := h.getV hy
    have hgx : s.C.getD k 0 = x := by rw [List.getD_eq_getElem?_getD, hx]; rfl
    have hgy : s.V.getD k false = y := by rw [List.getD_eq_getElem?_getD, hy]; rfl
    rw [s.uZ_nat (by omega), Sd.u, hgx, hgy, ← hf] at hR
    clear h hn hf hlen hlev hx hy hgx hgy
    by_cases h3 : k < f
    · obtain rfl : R = true := by rw [hR, decide_eq_true h3]; rfl
      have hb2 : decide ((k : Int) < (f : Int)) = true := decide_eq_true (by omega)
      clear hR
      go_enter Tryd.func43, Tryd.ntmps43
      go_wp2_with fail
      go_ret
      exact ⟨rfl, rfl⟩
    · rw [decide_eq_false h3, Bool.false_or] at hR
      have hb2 : decide ((k : Int) < (f : Int)) = false := decide_eq_false (by omega)
      by_cases h4 : 0 < x
      · obtain rfl : R = true := by rw [hR, decide_eq_true h4]; rfl
        have hb3 : decide (0 < (x : Int)) = true := decide_eq_true (by omega)
        have hb4 : decide (0 < x) = true := decide_eq_true h4
        clear hR
        go_enter Tryd.func43, Tryd.ntmps43
        go_wp2_with fail
        go_ret
        exact ⟨rfl, rfl⟩
      · rw [decide_eq_false h4, Bool.false_or] at hR
        obtain rfl : x = 0 := by omega
        subst hR
        have e1 : decide ((k : Int) < 0) = false := decide_eq_false (by omega)
        have e2 : decide (n ≤ k) = false := decide_eq_false (by omega)
        go_enter Tryd.func43, Tryd.ntmps43
        go_wp2_with fail
        go_ret
        exact ⟨rfl, rfl⟩
  · obtain rfl : R = true := by rw [hR]; exact s.uZ_no (by omega)
    have hb : decide ((n : Int) ≤ i) = true := decide_eq_true (by omega)
    clear h hn hf hR hlen hlev
    go_enter Tryd.func43, Tryd.ntmps43
    go_wp2_with fail
    go_ret
    exact ⟨rfl, rfl⟩

end Go.Proofs.YthfeecgpgempdaaDoor

/- The document's space: Take, Share, Drop, Free, Waiting. -/
namespace Go.Proofs.YthfeecgpgempdaaDoor
set_option linter.unusedVariables false
set_option linter.unusedSimpArgs false
open Go.RowKit Dg

set_option maxRecDepth 100000 in
set_option maxHeartbeats 4000000 in
theorem rstake_any (w : World) (r gc gv cc cv : Nat) (s : Sd) (h : RsIs w r gc gv cc cv s) (hf : s.Fine) (i f : Int) (hR : s.takeR = (i, f)) (s2 : Sd) (hs : s2 = s.takeS) :
    Calls Tryd.prog 40 #[.pointer (some ⟨r, 0, none⟩)] w fun e w' => e = .returned (.tuple #[.int .i64 i, .int .i64 f]) ∧ RsIs w' r gc gv cc cv s2 ∧ Kept (fun k => k = gc) w w' := by
  obtain ⟨c0, -, c2, -⟩ := h.cell
  obtain ⟨n, hn⟩ : ∃ n, n = s.N := ⟨_, rfl⟩
  have hle := hf.le
  have H := hid_of h
  have HN := hid_of hn
  have HR := hid_of hR
  have HS := hid_of hs
  have HU : Hid (∀ k, k < n → Calls Tryd.prog 43 #[.pointer (some ⟨r, 0, none⟩), .int .i64 (k : Int)] w fun e w' => e = .returned (.bool (s.u k)) ∧ w = w') := fun k hk =>
    rsused_any w r gc gv cc cv s h (k : Int) ⟨by omega, by omega⟩ _ (s.uZ_nat (by omega)).symm
  rw [← hn] at c0 c2 hle
  clear h hn hR hs hf
  go_enter Tryd.func40, Tryd.ntmps40
  go_wp2_with fail
  go_loopw [4] (fun v wr => ∃ k : Nat, k ≤ n ∧ v = .int .i64 (k : Int) ∧ Hid (∀ j, j < k → s.u j = true) ∧ w = wr) (fun v _ => n - (intOf v).toNat)
  case atStart => exact ⟨0, Nat.zero_le _, rfl, (fun j hj => by omega), rfl⟩
  case round =>
    obtain ⟨k, hk, rfl, HA, rfl⟩ := hrel
    by_cases hkn : k < n
    · have HQ := HU.out k hkn
      cases hu : s.u k with
      | true =>
        rw [hu] at HQ
        have HA2 : Hid (∀ j, j < k + 1 → s.u j = true) := fun j hj => by
          by_cases e : j = k
          · rw [e]; exact hu
          · exact HA.out j (by omega)
        have HQ2 := hid_of HQ
        clear hu HQ
        go_wp2_with fail
        refine HQ2.out.mono ?_
        rintro e w1 ⟨rfl, rfl⟩
        go_wp2_with fail
        refine ⟨?_, by (simp [intOf]) <;> omega⟩
        first
          | exact ⟨k + 1, by omega, by go_num, HA2, by trivial⟩
          | ((repeat apply Exists.intro); refine ⟨?_, rfl⟩; exact ⟨k + 1, by omega, by go_num, HA2, by trivial⟩)
      | false =>
        rw [hu] at HQ
        have hl : s.least = some k := Sd.least_of (by have := HN.out; omega) hu HA.out
        obtain ⟨e1, e2⟩ := Sd.take_yes hl
        obtain ⟨rfl, rfl⟩ : (k : Int) = i ∧ (0 : Int) = f := by have := HR.out; rw [e1] at this; cases this; exact ⟨rfl, rfl⟩
        have HS2 : Hid (s2 = { s with C := s.C.set k 1 }) := HS.out.trans e2
        obtain ⟨x, hx⟩ : ∃ x, s.C[k]? = some x := ⟨_, List.getElem?_eq_getElem (by have := HN.out; have := H.out.lenC; omega)⟩
        obtain ⟨d1, d2⟩ := H.out.getC hx
        have HT : Hid (RsIs (w.setCell ⟨gc, k, none⟩ (.int .i64 1)) r gc gv cc cv s2) := by
          rw [HS2.out]
          exact H.out.setC (by have := HN.out; omega) 1
        have HK : Hid (Kept (fun k => k = gc) w (w.setCell ⟨gc, k, none⟩ (.int .i64 1))) := Kept.setCell _ _ _ rfl
        have HQ2 := hid_of HQ
        clear hu HQ hl e1 e2 hx
        go_wp2_with fail
        refine HQ2.out.mono ?_
        rintro e w1 ⟨rfl, rfl⟩
        go_wp2_with fail
        go_ret2
        exact ⟨rfl, HT.out, HK.out⟩
    · obtain rfl : k = n := by omega
      have hl : s.least = none := Sd.least_full (fun j hj => HA.out j (by have := HN.out; omega))
      obtain ⟨e1, e2⟩ := Sd.take_no hl
      obtain ⟨rfl, rfl⟩ : (0 : Int) = i ∧ (3 : Int) = f := by have := HR.out; rw [e1] at this; cases this; exact ⟨rfl, rfl⟩
      obtain rfl : s2 = s := HS.out.trans e2
      clear hl e1 e2
      go_wp2_with fail
      go_ret2
      exact ⟨rfl, H.out, Kept.refl _ _⟩
set_option maxRecDepth 100000 in
set_option maxHeartbeats 4000000 in
theorem rsshare_any (w : World) (r gc gv cc cv : Nat) (s : Sd) (h : RsIs w r gc gv cc cv s) (i : Int) (hi : I64 i) (hC : sumC s.C ≤ 1000000) (R : Bool) (hR : R = decide (0 < s.of i)) (s2 : Sd) (hs : s2 = s.shareS i) :
    Calls Tryd.prog 36 #[.pointer (some ⟨r, 0, none⟩), .int .i64 i] w fun e w' => e = .returned (.bool R) ∧ RsIs w' r gc gv cc cv s2 ∧ Kept (fun k => k = gc) w w' := by
  obtain ⟨c0, -, c2, -⟩ := h.cell
  obtain ⟨n, hn⟩ : ∃ n, n = s.N := ⟨_, rfl⟩
  have HO := hid_of (rsof_any w r gc gv cc cv s h i hi _ rfl)
  have H := hid_of h
  obtain ⟨hi1, hi2⟩ := hi
  rw [← hn] at c0 c2
  by_cases hp : 0 < s.of i
  · have hl := s.of_le i
    obtain ⟨x, hx⟩ : ∃ x, x = s.of i := ⟨_, rfl⟩
    rw [← hx] at HO hl
    obtain ⟨k, rfl, hk, hg⟩ := Sd.of_pos hp
    rw [← hx] at hg
    obtain rfl : R = true := by rw [hR]; exact decide_eq_true hp
    have hs2 : s2 = { s with C := s.C.set k (x + 1) } := by
      rw [hs]
      unfold Sd.shareS
      rw [if_pos hp, Int.toNat_natCast, ← hx]
    have hkn : k < n := by rw [hn, ← h.lenC]; exact hk
    have hc : s.C[k]? = some x := by
      rw [← hg, List.getD_eq_getElem?_getD, List.getElem?_eq_getElem hk]
      rfl
    obtain ⟨d1, d2⟩ := h.getC hc
    have hx0 : 0 < x := by omega
    have HT : Hid (RsIs (w.setCell ⟨gc, k, none⟩ (.int .i64 ((x + 1 : Nat) : Int))) r gc gv cc cv s2) := by
      rw [hs2]
      exact h.setC (by omega) (x + 1)
    have HK : Hid (Kept (fun k => k = gc) w (w.setCell ⟨gc, k, none⟩ (.int .i64 ((x + 1 : Nat) : Int)))) := Kept.setCell _ _ _ rfl
    clear h hn hR hs hs2 hg hc hk hp hx
    go_enter Tryd.func36, Tryd.ntmps36
    go_wp2_with fail
    refine HO.out.mono ?_
    rintro e w1 ⟨rfl, rfl⟩
    go_wp2_with fail
    go_ret
    exact ⟨rfl, HT.out, HK.out⟩
  · obtain rfl : R = false := by rw [hR]; exact decide_eq_false hp
    obtain rfl : s2 = s := by rw [hs]; unfold Sd.shareS; rw [if_neg hp]
    rw [show s2.of i = 0 by omega] at HO
    clear h hn hR hs hp
    go_enter Tryd.func36, Tryd.ntmps36
    go_wp2_with fail
    refine HO.out.mono ?_
    rintro e w1 ⟨rfl, rfl⟩
    go_wp2_with fail
    go_ret
    exact ⟨rfl, H.out, Kept.refl _ _⟩
set_option maxRecDepth 100000 in
set_option maxHeartbeats 4000000 in
theorem rsdrop_any (w : World) (r gc gv cc cv : Nat) (s : Sd) (h : RsIs w r gc gv cc cv s) (i : Int) (hi : I64 i) (hC : sumC s.C ≤ 1000000) (R : Bool) (hR : R = decide (0 < s.of i)) (s2 : Sd) (hs : s2 = s.lessS i) :
    Calls Tryd.prog 35 #[.pointer (some ⟨r, 0, none⟩), .int .i64 i] w fun e w' => e = .returned (.bool R) ∧ RsIs w' r gc gv cc cv s2 ∧ Kept (fun k => k = gc ∨ k = gv) w w' := by
  obtain ⟨c0, -, c2, c3⟩ := h.cell
  obtain ⟨n, hn⟩ : ∃ n, n = s.N := ⟨_, rfl⟩
  have HO := hid_of (rsof_any w r gc gv cc cv s h i hi _ rfl)
  have H := hid_of h
  obtain ⟨hi1, hi2⟩ := hi
  rw [← hn] at c0 c2 c3
  by_cases hp : 0 < s.of i
  · have hl := s.of_le i
    obtain ⟨x, hx⟩ : ∃ x, x = s.of i := ⟨_, rfl⟩
    rw [← hx] at HO hl
    obtain ⟨k, rfl, hk, hg⟩ := Sd.of_pos hp
    rw [← hx] at hg
    obtain rfl : R = true := by rw [hR]; exact decide_eq_true hp
    obtain ⟨y, rfl⟩ : ∃ y, x = y + 1 := ⟨x - 1, by omega⟩
    obtain ⟨z, hz⟩ : ∃ z, z = decide (y = 0) := ⟨_, rfl⟩
    have hs2 : s2 = { s with C := s.C.set k y, V := s.V.set k z } := by
      rw [hs]
      unfold Sd.lessS
      rw [if_pos hp, Int.toNat_natCast, ← hx, hz]
      rfl
    have hkn : k < n := by rw [hn, ← h.lenC]; exact hk
    have hc : s.C[k]? = some (y + 1) := by
      rw [← hg, List.getD_eq_getElem?_getD, List.getElem?_eq_getElem hk]
      rfl
    obtain ⟨d1, d2⟩ := h.getC hc
    have h2 : RsIs (w.setCell ⟨gc, k, none⟩ (.int .i64 (y : Int))) r gc gv cc cv { s with C := s.C.set k y } := h.setC (by omega) y
    obtain ⟨e0, -, e2, e3⟩ := h2.cell
    obtain ⟨v, hv⟩ : ∃ v, s.V[k]? = some v := ⟨_, List.getElem?_eq_getElem (by rw [h.lenV]; omega)⟩
    obtain ⟨f1, f2⟩ := h2.getV (j := k) (x := v) hv
    obtain ⟨f3, -⟩ := h2.getC (j := k) (x := y) (by show (s.C.set k y)[k]? = _; rw [List.getElem?_set_self hk])
    have e2' : (w.setCell ⟨gc, k, none⟩ (.int .i64 (y : Int))).cell? ⟨r, 2, none⟩ = some (.slice (some ⟨gc, 0, none⟩) n cc) := by rw [hn]; exact e2
    have e3' : (w.setCell ⟨gc, k, none⟩ (.int .i64 (y : Int))).cell? ⟨r, 3, none⟩ = some (.slice (some ⟨gv, 0, none⟩) n cv) := by rw [hn]; exact e3
    obtain ⟨w1, hw1⟩ : ∃ w1, w1 = w.setCell ⟨gc, k, none⟩ (.int .i64 (y : Int)) := ⟨_, rfl⟩
    have hk1 : Kept (fun k => k = gc ∨ k = gv) w w1 := by rw [hw1]; exact Kept.setCell _ _ _ (.inl rfl)
    rw [← hw1] at h2 f1 f2 f3 e2' e3'
    have hkd : ∀ m, Kept (fun k => k = gc ∨ k = gv) w1 (w1.drewN m) := fun m => ⟨rfl, rfl, rfl, Nat.le_refl _, fun _ _ _ => rfl⟩
    have HT : Hid (∀ m, RsIs ((w1.drewN m).setCell ⟨gv, k, none⟩ (.bool z)) r gc gv cc cv s2) := fun m => by
      rw [hs2]
      exact (h2.draws m).setV (show k < s.N by omega) z
    have HK : Hid (∀ m, Kept (fun k => k = gc ∨ k = gv) w ((w1.drewN m).setCell ⟨gv, k, none⟩ (.bool z))) := fun m => (hk1.trans (hkd m)).trans (Kept.setCell _ _ _ (.inr rfl))
    have hzb : ((y : Int) == 0) = z := by
      rw [hz]
      by_cases e : y = 0
      · rw [decide_eq_true e]; exact beq_iff_eq.2 (by omega)
      · rw [decide_eq_false e]; exact beq_eq_false_iff_ne.2 (by omega)
    clear h hn hR hs hs2 hg hc hk hp hx h2 e0 e2 e3 hv hk1 hkd hz
    go_enter Tryd.func35, Tryd.ntmps35
    go_wp2_with fail
    refine HO.out.mono ?_
    rintro e w2 ⟨rfl, rfl⟩
    go_wp2_with fail
    rw [← hw1]
    clear hw1
    go_region
    all_goals
      go_wp2_with fail
      go_ret
      exact ⟨rfl, HT.out 1, HK.out 1⟩
  · obtain rfl : R = false := by rw [hR]; exact decide_eq_false hp
    obtain rfl : s2 = s := by rw [hs]; unfold Sd.lessS; rw [if_neg hp]
    rw [show s2.of i = 0 by omega] at HO
    clear h hn hR hs hp
    go_enter Tryd.func35, Tryd.ntmps35
    go_wp2_with fail
    refine HO.out.mono ?_
    rintro e w1 ⟨rfl, rfl⟩
    go_wp2_with fail
    go_ret
    exact ⟨rfl, H.out, Kept.refl _ _⟩
set_option maxRecDepth 100000 in
set_option maxHeartbeats 4000000 in
theorem rsfree_any (w : World) (r gc gv cc cv : Nat) (s : Sd) (h : RsIs w r gc gv cc cv s) (hf : s.Fine) (x : Nat) (hx : x = s.free) :
    Calls Tryd.prog 41 #[.pointer (some ⟨r, 0, none⟩)] w fun e w' => e = .returned (.int .i64 (x : Int)) ∧ w = w' := by
  obtain ⟨c0, -, -, -⟩ := h.cell
  obtain ⟨n, hn⟩ : ∃ n, n = s.N := ⟨_, rfl⟩
  have hle := hf.le
  have HX : Hid (x = s.freeTo n) := by show _ = _; rw [hx, hn]; rfl
  have HU : Hid (∀ k, k < n → Calls Tryd.prog 43 #[.pointer (some ⟨r, 0, none⟩), .int .i64 (k : Int)] w fun e w' => e = .returned (.bool (s.u k)) ∧ w = w') := fun k hk =>
    rsused_any w r gc gv cc cv s h (k : Int) ⟨by omega, by omega⟩ _ (s.uZ_nat (by omega)).symm
  rw [← hn] at c0 hle
  clear h hn hf hx
  go_enter Tryd.func41, Tryd.ntmps41
  go_wp2_with fail
  go_loopw [3, 4] (fun c v wr => ∃ k y : Nat, k ≤ n ∧ v = .int .i64 (k : Int) ∧ c = .int .i64 (y : Int) ∧ Hid (y = s.freeTo k) ∧ y ≤ k ∧ w = wr) (fun _ v _ => n - (intOf v).toNat)
  case atStart => exact ⟨0, 0, Nat.zero_le _, rfl, rfl, rfl, Nat.le_refl _, rfl⟩
  case round =>
    obtain ⟨k, y, hk, rfl, rfl, HY, hyk, rfl⟩ := hrel
    by_cases hkn : k < n
    · have HQ := HU.out k hkn
      cases hu : s.u k with
      | true =>
        rw [hu] at HQ
        have HY2 : Hid (y = s.freeTo (k + 1)) := by show _ = _; unfold Sd.freeTo; rw [hu, ← HY.out]; rfl
        have HQ2 := hid_of HQ
        clear hu HQ
        go_wp2_with fail
        refine HQ2.out.mono ?_
        rintro e w1 ⟨rfl, rfl⟩
        go_wp2_with fail
        refine ⟨?_, by (simp [intOf]) <;> omega⟩
        first
          | exact ⟨k + 1, y, by omega, by go_num, rfl, HY2, by omega, by trivial⟩
          | ((repeat apply Exists.intro); refine ⟨?_, rfl⟩; exact ⟨k + 1, y, by omega, by go_num, rfl, HY2, by omega, by trivial⟩)
      | false =>
        rw [hu] at HQ
        have HY2 : Hid (y + 1 = s.freeTo (k + 1)) := by show _ = _; unfold Sd.freeTo; rw [hu, ← HY.out]; rfl
        have HQ2 := hid_of HQ
        clear hu HQ
        go_wp2_with fail
        refine HQ2.out.mono ?_
        rintro e w1 ⟨rfl, rfl⟩
        go_wp2_with fail
        refine ⟨?_, by (simp [intOf]) <;> omega⟩
        first
          | exact ⟨k + 1, y + 1, by omega, by go_num, by go_num, HY2, by omega, by trivial⟩
          | ((repeat apply Exists.intro); refine ⟨?_, rfl⟩; exact ⟨k + 1, y + 1, by omega, by go_num, by go_num, HY2, by omega, by trivial⟩)
    · obtain rfl : k = n := by omega
      obtain rfl : x = y := by rw [HX.out, HY.out]
      go_wp2_with fail
      go_ret
      exact ⟨rfl, rfl⟩
set_option maxRecDepth 100000 in
set_option maxHeartbeats 4000000 in
theorem rswait_any (w : World) (r gc gv cc cv : Nat) (s : Sd) (h : RsIs w r gc gv cc cv s) (hf : s.Fine) :
    Calls Tryd.prog 42 #[.pointer (some ⟨r, 0, none⟩)] w fun e w' => ∃ v, e = .returned v ∧ OwnInts w' w.heap.size v s.waits ∧ Below w.heap.size w w' := by
  obtain ⟨i0, hi, hz0, hz1, hz2⟩ := info_parts Tryd.info3
  obtain ⟨-, -, -, c3⟩ := h.cell
  have hle := hf.le
  have hlt := h.lt
  obtain ⟨n, hn⟩ : ∃ n, n = s.N := ⟨_, rfl⟩
  have HG : Hid (∀ j, j < n → ∃ x, s.V[j]? = some x ∧ w.cell? ⟨gv, j, none⟩ = some (.bool x)) := fun j hj => by
    have hj2 : j < s.V.length := by rw [h.lenV]; omega
    exact ⟨_, List.getElem?_eq_getElem hj2, (h.getV (List.getElem?_eq_getElem hj2)).1⟩
  have HCW : Hid (∀ W : World, Below w.heap.size w W → W.cell? ⟨r, 3, none⟩ = some (.slice (some ⟨gv, 0, none⟩) n cv)) := fun W hW => by
    rw [hW.cell (p := ⟨r, 3, none⟩) hlt.1, hn]; exact c3
  obtain ⟨V, hV⟩ : ∃ V, V = s.V := ⟨_, rfl⟩
  have hw : s.waits = waitTo V n := by rw [hV, hn]; rfl
  rw [hw]
  rw [← hV] at HG
  rw [← hn] at c3 hle
  obtain ⟨-, -, hlt⟩ := hlt
  clear h hn hf hV hw
  go_enter Tryd.func42, Tryd.ntmps42
  go_wp2_with fail
  go_loopw [3, 10] (fun vz i wr => ∃ j : Nat, j ≤ n ∧ i = .int .i64 (j : Int) ∧ Hid (OwnInts wr w.heap.size vz (waitTo V j)) ∧ Hid (Below w.heap.size w wr)) (fun _ i _ => n - (intOf i).toNat)
  case atStart => exact ⟨0, Nat.zero_le _, rfl, OwnInts.nil _ _, Below.refl _ _⟩
  case round =>
    obtain ⟨j, hj, rfl, ho, hb⟩ := hrel
    have hsz : w.heap.size ≤ wr.heap.size := hb.out.size
    by_cases hjn : j < n
    · obtain ⟨x, hx, hc⟩ := HG.out j hjn
      have hc1 : wr.cell? ⟨gv, j, none⟩ = some (.bool x) := by rw [hb.out.cell (p := ⟨gv, j, none⟩) hlt]; exact hc
      have hc2 := HCW.out wr hb.out
      have hok : (waitTo V j).length ≤ 1000000 := by have := length_waitTo V j; omega
      have hg : V.getD j false = x := by rw [List.getD_eq_getElem?_getD, hx]; rfl
      cases x with
      | true =>
        have HNX : Hid (waitTo V (j + 1) = waitTo V j ++ [(j : Int)]) := by
          show _ = _
          show (if V.getD j false then _ else _) = _
          rw [hg]; rfl
        clear hx hc hg
        go_wp2_with (at_builtin; go_must (refine wpList_append_int wr rfl (.tmp 20) (.tmp 22) 30 rfl w.heap.size i0 Tryd.underlying30 hi hz0 hz1 hz2 u3 (waitTo V j) (by rfl) ho.out (j : Int) (by rfl) hok hsz ?_))
        intro v' w' g1 g2
        have HO' : Hid (OwnInts w' w.heap.size v' (waitTo V (j + 1))) := by rw [HNX.out]; exact g1
        have HB' : Hid (Below w.heap.size w w') := hb.out.trans g2.out
        clear g1 g2
        go_wp2_with fail
        exact ⟨⟨j + 1, by omega, by go_num, HO', HB'⟩, by (simp [intOf]) <;> omega⟩
      | false =>
        have HNX : Hid (waitTo V (j + 1) = waitTo V j) := by
          show _ = _
          show (if V.getD j false then _ else _) = _
          rw [hg]; rfl
        have HO' : Hid (OwnInts wr w.heap.size u3 (waitTo V (j + 1))) := by rw [HNX.out]; exact ho
        clear hx hc hg
        go_wp2_with fail
        exact ⟨⟨j + 1, by omega, by go_num, HO', hb⟩, by (simp [intOf]) <;> omega⟩
    · obtain rfl : j = n := by omega
      go_wp2_with fail
      go_ret
      exact ⟨_, rfl, ho.out, hb.out⟩

end Go.Proofs.YthfeecgpgempdaaDoor

/- 'append([]T(nil), x...)' of a whole row, as one step of a region that draws its order. -/
namespace Go.Proofs.YthfeecgpgempdaaDoor
set_option linter.unusedVariables false
set_option linter.unusedSimpArgs false
open Go.RowKit Dg

theorem step_append_whole {P : Program} {ops : Array Oper} {o : Oper} {a : Act} (w0 : World) {K : Act → World → Prop} {Q : Exit → Act → World → Prop} {E : Prop}
    (hgd : o.guard = none) (x : Operand) (t : TypeId) (ho : o.op = .call { callee := .builtin .append, args := #[.const (.slice none 0 0), x], argTypes := #[t, t] })
    (el : TypeId) (i : TypeInfo) (z : Value) (bytes : Nat) (ht : P.underlying t = some (.slice el)) (hi : P.info? el = some i) (hz : i.zero = some z) (hsize : i.size = 1) (hby : i.bytes = bytes) (hzs : z.cells.size = 1)
    (g n c : Nat) (xs : List Value) (hx : a.eval x = .slice (some ⟨g, 0, none⟩) n c) (hl : xs.length = n) (hn : 1 ≤ n) (hn2 : n ≤ 100000) (hb2 : bytes ≤ 8)
    (hc : ∀ j u, xs[j]? = some u → w0.cell? ((⟨g, 0, none⟩ : Addr).add j) = some u) (h1 : ∀ u ∈ xs, u.oneCell' = true)
    (hK : ∀ g2 c2 w', Hid (w'.ownsRow w0.heap.size el 1 (.slice (some ⟨g2, 0, none⟩) n c2) n xs) → Hid (Below w0.heap.size w0 w') → K (a.put o.dst (.slice (some ⟨g2, 0, none⟩) n c2)) w') :
    if Region.wanted o (yielded ops a.tmps) = true then Oper.wp P o a w0 K Q else E := by
  have hw : Region.wanted o (yielded ops a.tmps) = true := by simp [Region.wanted, hgd]
  rw [if_pos hw]
  have hbb : (0 + n) * bytes ≤ 140737488355328 := by
    have : (0 + n) * bytes ≤ 100000 * 8 := Nat.mul_le_mul (by omega) hb2
    omega
  obtain ⟨v', w', hrun, r1, r2, r3⟩ := run_append_own (P := P) w0 w0.heap.size t o.type el i z 1 bytes ht hi hz hsize hby hzs (by decide) (.slice none 0 0) 0 [] (World.ownsRow_nil _ _ _ _) ⟨g, 0, none⟩ n c xs (by omega) hc h1 (by unfold maxLen; omega) hbb (Nat.le_refl _)
  rw [Nat.zero_add, List.nil_append] at r1
  obtain ⟨g2, c2, rfl⟩ : ∃ g2 c2, v' = .slice (some ⟨g2, 0, none⟩) n c2 := by
    rcases r1.2 with ⟨-, e⟩ | ⟨g', cap', cur, e, -⟩
    · omega
    · exact ⟨g', cap', e⟩
  unfold Oper.wp
  have hx0 : a.eval (.const (.slice none 0 0)) = .slice none 0 0 := rfl
  simp [execOp, ho, resolve, invoke, builtin, hx, hx0, hrun, Result.andThen]
  refine hK g2 c2 w' r1 ?_
  exact (Below.refl w0.heap.size w0).grown r2 (Nat.le_refl _) (fun k hk => by cases hk)

end Go.Proofs.YthfeecgpgempdaaDoor
