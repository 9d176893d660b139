/- FrameSpoilt: the walk of the law. -/
import Derived.Test.YthkfaackkcdcoabGreatPart15
import Derived.Test.YthkfaackkcdcoabGreatPart12
import Derived.Deep.CutRange
namespace Go.Proofs.YthkfaackkcdcoabGreat
set_option linter.unusedVariables false
set_option linter.unusedSimpArgs false
open Go.RowKit Dg

theorem asOut_true {kind : Int} {x : List Int} {s : Nat} {A : List Nat} (h : (A, true) = asOut kind x s) : 1 ≤ A.length ∧ A.length ≤ 10000 ∧ ∀ y ∈ A, y < 256 := by
  unfold asOut at h
  cases hF : frm kind x s with
  | none => rw [hF] at h; cases h
  | some D =>
    rw [hF] at h
    cases h
    have h1 := (frm_ne hF).1
    have h2 := frm_len hF
    rw [length_pack]
    exact ⟨by omega, by omega, pack_lt _⟩
theorem cut_bytes (a : Option Addr) (n cap k : Nat) (hk : k ≤ cap) (W : World) : (Instr.sliceAt 25 (.slice a n cap) none (some (.int .i64 (k : Int))) none).run Tryz.prog W = .ok (.slice a k cap) W := by
  obtain ⟨i0, hi, hz0, hz1, hz2⟩ := info_parts Tryz.info5
  simp [Instr.sliceAt, Instr.slice, Instr.sliceBounds, Instr.sliceBound, asIntOf, run_underlying Tryz.underlying25, sizeOf, typeInfo, hi, hk]
  cases a <;> simp [Addr.add]
/-- A row of bytes of one's own that is not empty. -/
def RowB (W w : World) (v : Value) (l : List Nat) : Prop := ∃ g c, v = .slice (some ⟨g, 0, none⟩) l.length c ∧ OwnBytes w W.heap.size (.slice (some ⟨g, 0, none⟩) l.length c) l ∧ 1 ≤ l.length ∧ l.length ≤ 10000 ∧ (∀ x ∈ l, x < 256) ∧ Below W.heap.size W w
theorem RowB.of {W w : World} {v : Value} {l : List Nat} {base : Nat} (h : OwnBytes w base v l) (hb : W.heap.size ≤ base) (h1 : 1 ≤ l.length) (h2 : l.length ≤ 10000) (h3 : ∀ x ∈ l, x < 256) (hbel : Below W.heap.size W w) : RowB W w v l := by
  have h' : OwnBytes w W.heap.size v l := ownsRow_base h hb
  rcases h.2 with ⟨_, h0⟩ | ⟨g', cap', cur, hv, -⟩
  · exfalso; omega
  · subst hv
    exact ⟨g', cap', rfl, h', h1, h2, h3, hbel⟩

set_option maxRecDepth 100000 in
set_option maxHeartbeats 8000000 in
theorem yspoilt_any (W : World) (a : Option Addr) (len cap : Nat) (z : List Int) (kind n noise at_ c how : Int) (hr : IsRow .i64 W a len cap z) (hk : I64 kind) (hn : I64 n) (hno : I64 noise) (hat_ : I64 at_) (hc : 0 ≤ c ∧ c < 256) (hho : I64 how) :
    Calls Tryz.prog 3 #[.slice a len cap, .int .i64 kind, .int .i64 n, .int .i64 noise, .int .i64 at_, .int .u8 c, .int .i64 how] W fun e W' => e = .returned (.bool true) ∧ Below W.heap.size W W' := by
  obtain ⟨i0, hi, hz0, hz1, hz2⟩ := info_parts Tryz.info5
  obtain ⟨l, hll, hI, hat, hle, hm, hnone, hblk⟩ := hr.ints
  subst hll
  have HA : Hid (IntsAt W a l) := hat
  have HI : Hid (∀ x ∈ l, I64 x) := hI
  have HM : Hid (l.length ≤ maxLen) := Nat.le_trans hle hm
  obtain ⟨M, hM⟩ : ∃ M : Nat, n % 64 = (M : Int) := ⟨(n % 64).toNat, by omega⟩
  obtain ⟨N, hN⟩ : ∃ N : Nat, 1 + (M : Int) = (N : Int) := ⟨M + 1, by omega⟩
  have HMM := hid_of hM
  have hN1 : 1 ≤ N := by omega
  have hN64 : N ≤ 64 := by omega
  have HN65 : Hid ((N : Int) % 65 = (N : Int)) := by show _ = _; omega
  have HKI := hid_of hk
  have HNO := hid_of hno
  obtain ⟨hk1, hk2⟩ := hk
  obtain ⟨hn1, hn2⟩ := hn
  obtain ⟨hat1, hat2⟩ := hat_
  obtain ⟨hho1, hho2⟩ := hho
  obtain ⟨cn, rfl⟩ := Int.eq_ofNat_of_zero_le hc.1
  have hc256 : cn < 256 := by omega
  obtain ⟨Kd, hKd⟩ : ∃ Kd : Int, kind % 19 = Kd := ⟨_, rfl⟩
  have HKD := hid_of hKd
  have hho4 : how % 4 = 0 ∨ how % 4 = 1 ∨ how % 4 = 2 ∨ how % 4 = 3 := by omega
  clear hat hI hle hm hnone hblk hr hM hno hc hKd
  go_enter Tryz.func3, Tryz.ntmps3
  go_wp2_with fail
  refine (within_any n 64 W hn1 hn2 (by decide) (by decide)).mono ?_
  rw [HMM.out]
  rintro e w0 ⟨rfl, rfl⟩
  go_wp2_with fail
  refine (tone_any W a cap l (N : Int) kind noise N HA.out HM.out HI.out ⟨by omega, by omega⟩ HKI.out HNO.out HN65.out).mono ?_
  rintro e w1 ⟨v1, xs, rfl, hv1, hxl, hxb, hb1⟩
  obtain ⟨a1, c1, rfl, hn1', -, -⟩ := hv1.ns
  have HB1 := hid_of hb1
  have HN1 := hid_of hn1'
  have hs1 : W.heap.size ≤ w1.heap.size := hb1.size
  have hxl1 : 1 ≤ xs.length := by omega
  have hxl2 : xs.length ≤ 64 := by omega
  have hXm : mayX xs := ⟨hxl1, hxl2, fun y hy => by have := hxb y hy; unfold isS; omega⟩
  obtain ⟨s, hs⟩ := shift_may xs
  have HS := hid_of hs
  obtain ⟨i, -, hbi, -⟩ := bestF_any hXm s
  have hDl := frm_len hbi
  have hDp := (frm_ne hbi).1
  obtain ⟨L, hL⟩ : ∃ L, L = pack (bestF xs s 19) := ⟨_, rfl⟩
  have HR : Hid ((L, 0) = encOut xs s) := by show _ = _; rw [encOut_may hXm, hL]
  have hL1 : 1 ≤ L.length := by rw [hL, length_pack]; omega
  have hL2 : L.length ≤ 10000 := by rw [hL, length_pack]; omega
  have HL256 : Hid (∀ x ∈ L, x < 256) := by rw [hL]; exact pack_lt _
  obtain ⟨⟨A, ok⟩, hRA⟩ : ∃ R, R = asOut Kd xs s := ⟨_, rfl⟩
  have HRA := hid_of hRA
  clear hv1 hb1 hn1' hxl hxb HA HI HM HKI HNO HN65 HMM hXm hs hbi hDl hDp hL hRA
  go_wp2_with fail
  refine (renc_any w1 s a1 c1 xs HN1.out (by omega) HS.out _ HR.out).mono ?_
  rintro e w2 ⟨v2, rfl, h2, hb2⟩
  have HO2 := hid_of h2
  have HX2 := hid_of (HN1.out.mono hb2)
  have HB2 : Hid (Below W.heap.size W w2) := HB1.out.trans (hb2.mono hs1)
  have hs2 : W.heap.size ≤ w2.heap.size := HB2.out.size
  clear h2 hb2 HN1 HB1
  go_wp2_with fail
  refine (within_any kind 19 w2 hk1 hk2 (by decide) (by decide)).mono ?_
  rw [HKD.out]
  rintro e w0 ⟨rfl, rfl⟩
  go_wp2_with fail
  refine (ras_any w2 Kd s a1 c1 xs HX2.out (by omega) HS.out _ HRA.out).mono ?_
  rintro e w3 ⟨v3, rfl, h3, hb3⟩
  have HB3 : Hid (Below W.heap.size W w3) := HB2.out.trans (hb3.mono hs2)
  have HO3 : Hid (OwnBytes w3 w1.heap.size v2 L) := ownsRow_other (F := fun _ => False) HO2.out (Kept.of_below hb3) (fun _ _ h => h)
  have HRL : Hid (RowB W w3 v2 L) := RowB.of HO3.out hs1 hL1 hL2 HL256.out HB3.out
  have HRA3 : Hid (ok = true → RowB W w3 v3 A) := fun hok => by
    subst hok
    obtain ⟨g1, g2, g3⟩ := asOut_true HRA.out
    exact RowB.of h3 hs2 g1 g2 g3 HB3.out
  clear h3 hb3 HO2 HO3 HX2 HB2 HR HRA HS hk1 hk2 HKD HL256
  go_upto_region 4 with fail
  go_cut [43] from 38 to 43 (fun v wx => ∃ t, v = .bool t ∧ Hid (t = true → ok = true) ∧ w3 = wx)
  case first =>
    cases ok with
    | false =>
      go_wp2_with fail
      go_meet
      exact ⟨false, rfl, fun h => h, rfl⟩
    | true =>
      rcases (by cases (Int.tmod noise 2 == 0) <;> simp : (Int.tmod noise 2 == 0) = false ∨ (Int.tmod noise 2 == 0) = true) with hb | hb
      · go_wp2_with fail
        go_meet
        exact ⟨false, rfl, fun _ => by first | rfl | trivial, rfl⟩
      · go_wp2_with fail
        go_meet
        exact ⟨true, rfl, fun _ => by first | rfl | trivial, rfl⟩
  case rest =>
    obtain ⟨t, rfl, htok, rfl⟩ := hcut
    go_upto_if 43 with fail
    go_cut [15] from 44 to 44 (fun v wx => ∃ Bt, Hid (RowB W wx v Bt) ∧ w3 = wx)
    case first =>
      cases t with
      | false =>
        go_wp2_with fail
        go_meet
        exact ⟨L, HRL, rfl⟩
      | true =>
        have HA3 := hid_of (HRA3.out (htok.out rfl))
        go_wp2_with fail
        go_meet
        exact ⟨A, HA3, rfl⟩
    case rest =>
      obtain ⟨Bt, hrow, rfl⟩ := hcut
      obtain ⟨g, cp, rfl, ho, hB1, hB2, hB256, hbel⟩ := hrow.out
      have HO := hid_of ho
      have HB256 := hid_of hB256
      have HBW := hid_of hbel
      have hs3 : W.heap.size ≤ w3.heap.size := hbel.size
      obtain ⟨hcp1, hcp2⟩ := own_cap ho
      have HCP2 := hid_of hcp2
      have hG := World.ownsRow.lt ho g rfl
      have HG := hid_of hG.1
      have hBb : ((Bt.length : Int) == 0) = false := beq_eq_false_iff_ne.2 (by omega)
      clear hrow ho hB256 hbel hcp2 hG HRL HRA3 HB3 htok
      rcases hho4 with h4 | h4 | h4 | h4
      · have H4 := hid_of h4
        clear h4
        go_wp2_with fail
        refine (within_any how 4 w3 hho1 hho2 (by decide) (by decide)).mono ?_
        rw [H4.out]
        rintro e w0 ⟨rfl, rfl⟩
        go_wp2_with fail
        refine (within_nat at_ Bt.length w3 hat1 hat2 hB1 (by omega) _ rfl).mono ?_
        rintro e w0 ⟨j, rfl, hj, -, rfl⟩
        obtain ⟨x, hx⟩ : ∃ x, Bt[j]? = some x := ⟨Bt[j], by simp [hj]⟩
        have hx256 := HB256.out x (List.mem_of_getElem? hx)
        obtain ⟨hrc, hrf⟩ := own_cell HO.out hx
        obtain ⟨y, hy⟩ : ∃ y, y = x ^^^ cn := ⟨_, rfl⟩
        have hy256 : y < 256 := by rw [hy]; exact Nat.xor_lt_two_pow (n := 8) hx256 hc256
        have hxor : bits BinOp.xor IntKind.u8 (x : Int) (cn : Int) = ((y : Nat) : Int) := by rw [u8_xor_nat _ _ hx256 hc256, hy]
        have ho4 := own_set HO.out j y hj
        have HS4 : Hid (SlAt (w3.setCell ⟨g, j, none⟩ (.int .u8 (y : Int))) (.slice (some ⟨g, 0, none⟩) Bt.length cp) (Bt.set j y)) := SlAt.of_owns ho4
        have HL4 : Hid ((Bt.set j y).length = Bt.length) := by show _ = _; simp
        have HY256 : Hid (∀ x ∈ Bt.set j y, x < 256) := fun u hu => by
          rcases List.mem_or_eq_of_mem_set hu with h | h
          · exact HB256.out u h
          · omega
        have HB4 : Hid (Below W.heap.size W (w3.setCell ⟨g, j, none⟩ (.int .u8 (y : Int)))) := HBW.out.setCell (by show _ ≤ g; exact HG.out) _
        clear hx ho4 hy HO
        go_wp2_with fail
        generalize w3.setCell ⟨g, j, none⟩ (.int .u8 (y : Int)) = w4 at *
        have hs4 : W.heap.size ≤ w4.heap.size := HB4.out.size
        refine (ydec_at w4 _ Bt.length cp _ HS4.out HL4.out HY256.out hcp1 HCP2.out (fun e => by cases e)).mono ?_
        rintro e w5 ⟨rfl, hb5⟩
        have HB5 : Hid (Below W.heap.size W w5) := HB4.out.trans (hb5.mono hs4)
        have hs5 : W.heap.size ≤ w5.heap.size := HB5.out.size
        clear hb5
        go_wp2_with fail
        refine (wakes8_any _).mono ?_
        rintro e w8 ⟨rfl, hb8⟩
        have HB8 : Hid (Below W.heap.size W w8) := HB5.out.trans (hb8.mono hs5)
        clear hb8
        go_wp2
        go_ret
        exact ⟨rfl, HB8.out⟩
      · have H4 := hid_of h4
        clear h4
        go_wp2_with fail
        refine (within_any how 4 w3 hho1 hho2 (by decide) (by decide)).mono ?_
        rw [H4.out]
        rintro e w0 ⟨rfl, rfl⟩
        go_wp2_with fail
        refine (within_nat at_ Bt.length w3 hat1 hat2 hB1 (by omega) _ rfl).mono ?_
        rintro e w0 ⟨j, rfl, hj, -, rfl⟩
        have hsl := cut_bytes (some ⟨g, 0, none⟩) Bt.length cp j (by omega)
        have HS4 : Hid (SlAt w3 (.slice (some ⟨g, 0, none⟩) j cp) (Bt.take j)) := SlAt.take (SlAt.of_owns HO.out) j (by omega) rfl
        have HL4 : Hid ((Bt.take j).length = j) := by show _ = _; simp; omega
        have HY256 : Hid (∀ x ∈ Bt.take j, x < 256) := fun u hu => HB256.out u (List.mem_of_mem_take hu)
        clear HO
        go_wp2_with fail
        refine (ydec_at w3 _ j cp _ HS4.out HL4.out HY256.out (by omega) HCP2.out (fun e => by cases e)).mono ?_
        rintro e w5 ⟨rfl, hb5⟩
        have HB5 : Hid (Below W.heap.size W w5) := HBW.out.trans (hb5.mono hs3)
        have hs5 : W.heap.size ≤ w5.heap.size := HB5.out.size
        clear hb5
        go_wp2_with fail
        refine (wakes8_any _).mono ?_
        rintro e w8 ⟨rfl, hb8⟩
        have HB8 : Hid (Below W.heap.size W w8) := HB5.out.trans (hb8.mono hs5)
        clear hb8
        go_wp2
        go_ret
        exact ⟨rfl, HB8.out⟩
      · have H4 := hid_of h4
        clear h4
        go_wp2_with fail
        refine (within_any how 4 w3 hho1 hho2 (by decide) (by decide)).mono ?_
        rw [H4.out]
        rintro e w0 ⟨rfl, rfl⟩
        have HOA : Hid ((w3.alloc (.cells #[.int .u8 0, .int .u8 0, .int .u8 (cn : Int)] 5)).ownsRow W.heap.size 5 1 (.slice (some ⟨g, 0, none⟩) Bt.length cp) Bt.length (u8s Bt)) := World.ownsRow.alloc HO.out _
        have HBA : Hid (Below W.heap.size W (w3.alloc (.cells #[.int .u8 0, .int .u8 0, .int .u8 (cn : Int)] 5))) := HBW.out.alloc hs3 _
        have HNEW : Hid (∀ (j : Nat) (u : Value), ([.int .u8 0, .int .u8 0, .int .u8 (cn : Int)] : List Value)[j]? = some u → (w3.alloc (.cells #[.int .u8 0, .int .u8 0, .int .u8 (cn : Int)] 5)).cell? ((⟨w3.heap.size, 0, none⟩ : Addr).add j) = some u) := by
          intro j u hj
          have hown3 := own_new w3 W.heap.size #[.int .u8 0, .int .u8 0, .int .u8 (cn : Int)] 3 [0, 0, cn] rfl rfl (by decide) hs3
          match j, hj with
          | 0, hj => simp at hj; subst hj; exact (own_cell hown3 (j := 0) (x := 0) rfl).1
          | 1, hj => simp at hj; subst hj; exact (own_cell hown3 (j := 1) (x := 0) rfl).1
          | 2, hj => simp at hj; subst hj; exact (own_cell hown3 (j := 2) (x := cn) rfl).1
        clear HO
        go_wp2_with (at_builtin; go_must (refine wpList_append_mine _ rfl (.tmp 73) (.tmp 75) 25 rfl W.heap.size 5 i0 (.int .u8 0) 1 1 Tryz.underlying25 hi hz0 hz1 hz2 rfl (by decide) _ Bt.length (u8s Bt) rfl HOA.out ⟨w3.heap.size, 0, none⟩ 3 3 [.int .u8 0, .int .u8 0, .int .u8 (cn : Int)] rfl rfl HNEW.out (by intro u hu; simp at hu; rcases hu with rfl | rfl <;> rfl) (by decide) (by unfold maxLen; omega) (by omega) (by simp; omega) ?_))
        intro g4 c4 w4 h4o h4g h4b
        have HS4 : Hid (SlAt w4 (.slice (some ⟨g4, 0, none⟩) (Bt.length + 3) c4) (Bt ++ [0, 0, cn])) := by
          refine SlAt.of_owns (base := W.heap.size) (n := Bt.length + 3) ?_
          have e : u8s (Bt ++ [0, 0, cn]) = u8s Bt ++ [.int .u8 0, .int .u8 0, .int .u8 (cn : Int)] := by simp [u8s]
          rw [e]
          exact h4o.out
        obtain ⟨hc1, hc2⟩ := own_cap h4o.out
        have HC2 := hid_of hc2
        obtain ⟨T, hT⟩ : ∃ T, T = Bt.length + 3 := ⟨_, rfl⟩
        rw [← hT] at HS4 hc1 ⊢
        have HL4 : Hid ((Bt ++ [0, 0, cn]).length = T) := by show _ = _; rw [hT]; simp
        have HY256 : Hid (∀ x ∈ Bt ++ [0, 0, cn], x < 256) := fun u hu => by
          rcases List.mem_append.1 hu with h | h
          · exact HB256.out u h
          · simp at h; omega
        have HB4 : Hid (Below W.heap.size W w4) := HBA.out.grown h4g.out HBA.out.size (fun k hk => by simp [Value.ownBlock] at hk; subst hk; exact HG.out)
        have hs4 : W.heap.size ≤ w4.heap.size := HB4.out.size
        clear h4o h4g h4b HOA HBA HNEW hT hc2
        go_wp2_with fail
        refine (ydec_at w4 _ T c4 _ HS4.out HL4.out HY256.out hc1 HC2.out (fun e => by cases e)).mono ?_
        rintro e w5 ⟨rfl, hb5⟩
        have HB5 : Hid (Below W.heap.size W w5) := HB4.out.trans (hb5.mono hs4)
        have hs5 : W.heap.size ≤ w5.heap.size := HB5.out.size
        clear hb5
        go_wp2_with fail
        refine (wakes8_any _).mono ?_
        rintro e w8 ⟨rfl, hb8⟩
        have HB8 : Hid (Below W.heap.size W w8) := HB5.out.trans (hb8.mono hs5)
        clear hb8
        go_wp2
        go_ret
        exact ⟨rfl, HB8.out⟩
      · have H4 := hid_of h4
        clear h4
        go_wp2_with fail
        refine (within_any how 4 w3 hho1 hho2 (by decide) (by decide)).mono ?_
        rw [H4.out]
        rintro e w0 ⟨rfl, rfl⟩
        have HS4 : Hid (SlAt w3 (.slice (some ⟨g, 0, none⟩) Bt.length cp) Bt) := SlAt.of_owns HO.out
        clear HO
        go_wp2_with fail
        refine (ydec_at w3 _ Bt.length cp _ HS4.out rfl HB256.out hcp1 HCP2.out (fun e => by cases e)).mono ?_
        rintro e w5 ⟨rfl, hb5⟩
        have HB5 : Hid (Below W.heap.size W w5) := HBW.out.trans (hb5.mono hs3)
        have hs5 : W.heap.size ≤ w5.heap.size := HB5.out.size
        clear hb5
        go_wp2_with fail
        refine (wakes8_any _).mono ?_
        rintro e w8 ⟨rfl, hb8⟩
        have HB8 : Hid (Below W.heap.size W w8) := HB5.out.trans (hb8.mono hs5)
        clear hb8
        go_wp2
        go_ret
        exact ⟨rfl, HB8.out⟩

end Go.Proofs.YthkfaackkcdcoabGreat
