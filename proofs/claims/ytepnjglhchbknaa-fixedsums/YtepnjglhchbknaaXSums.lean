/- FixedSums: the walk of the law. -/
import Derived.Test.YtepnjglhchbknaaXMath
import Derived.Deep.CutRange
namespace Go.Proofs.Ytepnjglhchbknaa
set_option linter.unusedVariables false
set_option linter.unusedSimpArgs false
open Go.RowKit Dg

/-- Three rows of numbers of one's own, apart from each other. -/
structure F3 (W wr : World) (va vb vc : Value) (la lb lc : List Int) : Prop where
  a : OwnInts wr W.heap.size va la
  b : OwnInts wr W.heap.size vb lb
  c : OwnInts wr W.heap.size vc lc
  ab : ∀ k, va.ownBlock = some k → vb.ownBlock ≠ some k
  ac : ∀ k, va.ownBlock = some k → vc.ownBlock ≠ some k
  bc : ∀ k, vb.ownBlock = some k → vc.ownBlock ≠ some k
  bel : Below W.heap.size W wr
theorem F3.rot {W wr : World} {va vb vc : Value} {la lb lc : List Int} (h : F3 W wr va vb vc la lb lc) : F3 W wr vb vc va lb lc la :=
  ⟨h.b, h.c, h.a, h.bc, fun k hk e => h.ab k e hk, fun k hk e => h.ac k e hk, h.bel⟩
theorem F3.drewN {W wr : World} {va vb vc : Value} {la lb lc : List Int} (h : F3 W wr va vb vc la lb lc) (n : Nat) : F3 W (wr.drewN n) va vb vc la lb lc :=
  ⟨h.a.drewN n, h.b.drewN n, h.c.drewN n, h.ab, h.ac, h.bc, below_drewN h.bel n⟩
theorem wpList_append_f3 {P : Program} (W w0 : World) {ops : Array Oper} {rest : List Oper} {o : Oper} {a : Act} {Q : Exit → Act → World → Prop}
    (hgd : o.guard = none) (s x : Operand) (t : TypeId) (ho : o.op = .call { callee := .builtin .append, args := #[s, x], argTypes := #[t, t] })
    (i : TypeInfo) (ht : P.underlying t = some (.slice 3)) (hi : P.info? 3 = some i) (hz : i.zero = some (.int .i64 0)) (hsize : i.size = 1) (hby : i.bytes = 8)
    (va vb vc : Value) (la lb lc : List Int) (hs : a.eval s = va) (hf : F3 W w0 va vb vc la lb lc) (y : Int) (hx : a.eval x = .slice (some ⟨w0.heap.size, 0, none⟩) 1 1)
    (hl : la.length ≤ 1000000)
    (h : ∀ v' w', Hid (F3 W w' v' vb vc (la ++ [y]) lb lc) → wpList P ops Q rest (a.put o.dst v') w') : wpList P ops Q (o :: rest) a (w0.alloc (.cells #[.int .i64 y] 3)) := by
  refine wpList_append_int_mine w0 hgd s x t ho W.heap.size i ht hi hz hsize hby va la hs hf.a y hx hl hf.bel.size ?_
  intro v' w' h1 h2 h3
  refine h v' w' ⟨h1, ownsRow_other hf.b h2 (fun k hk e => hf.ab k e hk), ownsRow_other hf.c h2 (fun k hk e => hf.ac k e hk), fun k hk e => ?_, fun k hk e => ?_, hf.bc, h2.below_of hf.bel (fun k hk => (World.ownsRow.lt hf.a k hk).1) hf.bel.size⟩
  · rcases h3 k hk with h4 | h4
    · exact hf.ab k h4 e
    · have := (World.ownsRow.lt hf.b k e).2; omega
  · rcases h3 k hk with h4 | h4
    · exact hf.ac k h4 e
    · have := (World.ownsRow.lt hf.c k e).2; omega
theorem within_quiet (v n : Int) (w : World) (k : Nat) (hv1 : -9223372036854775808 ≤ v) (hv2 : v ≤ 9223372036854775807) (hn1 : 1 ≤ n) (hn2 : n ≤ 4611686018427387904) :
    Calls Try.prog 9 #[.int .i64 v, .int .i64 n] (w.drewN k) fun e w'' => e = .returned (.int .i64 (v % n)) ∧ ∃ m, w'' = w.drewN m :=
  (within_any v n (w.drewN k) hv1 hv2 hn1 hn2).mono fun e w'' ⟨h1, h2⟩ => ⟨h1, k, h2.symm⟩
/-- A number, made small. -/
def half (x : Int) : Int := x % 1048576 - 524288
theorem half_small (x : Int) : -524288 ≤ half x ∧ half x ≤ 524287 := by unfold half; omega
theorem halves_small (l : List Int) (n : Nat) : ∀ x ∈ (l.take n).map half, -524288 ≤ x ∧ x ≤ 524287 := by
  intro x hx
  obtain ⟨y, _, rfl⟩ := List.mem_map.1 hx
  exact half_small y
theorem halves_S (l : List Int) (n : Nat) : allS ((l.take n).map half) := fun x hx => by
  have := halves_small l n x hx
  unfold isS
  omega
theorem sums_S (A B : List Int) (hA : ∀ x ∈ A, -524288 ≤ x ∧ x ≤ 524287) (hB : ∀ x ∈ B, -524288 ≤ x ∧ x ≤ 524287) : allS (List.zipWith (· + ·) A B) := by
  intro x hx
  rw [List.mem_iff_getElem?] at hx
  obtain ⟨j, hj⟩ := hx
  rw [List.getElem?_zipWith] at hj
  split at hj
  · rename_i u v hu hv
    simp at hj
    have := hA u (List.mem_of_getElem? hu)
    have := hB v (List.mem_of_getElem? hv)
    unfold isS
    omega
  · cases hj
theorem residZ_sums (A B : List Int) (n j : Nat) (h4 : n ≤ 4) (hl : B.length = A.length) (hj : n + j < A.length) (x y z : Int) (hx : (residZ (List.zipWith (· + ·) A B) n)[j]? = some x) (hy : (residZ A n)[j]? = some y) (hz : (residZ B n)[j]? = some z) : x = y + z := by
  have hC : (List.zipWith (· + ·) A B).length = A.length := by simp; omega
  rw [residZ_at _ n j h4 (by rw [hC]; exact hj)] at hx
  rw [residZ_at _ n j h4 hj] at hy
  rw [residZ_at _ n j h4 (by omega)] at hz
  simp only [Option.some.injEq] at hx hy hz
  have e : ∀ i, i < A.length → at0 (List.zipWith (· + ·) A B) i = at0 A i + at0 B i := by
    intro i hi
    have hB : i < B.length := by omega
    unfold at0
    simp [List.getD, List.getElem?_zipWith, hi, hB]
  have h1 := tell_add n (at0 A) (at0 B) (at0 (List.zipWith (· + ·) A B)) (n + j) (fun i hi => e i (by omega)) (by omega)
  have h2 := e (n + j) hj
  omega

set_option maxRecDepth 100000 in
set_option maxHeartbeats 8000000 in
theorem xsums_any (W : World) (a : Option Addr) (len cap : Nat) (z : List Int) (ya : Option Addr) (ylen ycap : Nat) (yz : List Int) (o : Int) (hr : IsRow .i64 W a len cap z) (hry : IsRow .i64 W ya ylen ycap yz) (ho : I64 o) :
    Calls Try.prog 4 #[.slice a len cap, .slice ya ylen ycap, .int .i64 o] W fun e W' => e = .returned (.bool true) ∧ Below W.heap.size W W' := by
  obtain ⟨i0, hi, hz0, hz1, hz2⟩ := info_parts Try.info3
  obtain ⟨l, hll, hI, hat, hle, hm, hnone, hblk⟩ := hr.ints
  obtain ⟨r, hrl, hrI, hrat, hrle, hrm, hrnone, hrblk⟩ := hry.ints
  obtain ⟨ho1, ho2⟩ := ho
  subst hll hrl
  unfold maxLen at hm hrm
  have hl63 : l.length ≤ 9223372036854775807 := by omega
  have hr63 : r.length ≤ 9223372036854775807 := by omega
  have HA : Hid (IntsAt W a l) := hat
  have HI : Hid (∀ x ∈ l, I64 x) := hI
  have HRA : Hid (IntsAt W ya r) := hrat
  have HRI : Hid (∀ x ∈ r, I64 x) := hrI
  obtain ⟨n, hn⟩ : ∃ n : Nat, (n : Int) = o % 5 := ⟨(o % 5).toNat, by omega⟩
  have hn5 : n < 5 := by omega
  have HNO : Hid (o % 5 = (n : Int)) := hn.symm
  obtain ⟨N, hN⟩ : ∃ N, N = min (min l.length r.length) 64 := ⟨_, rfl⟩
  have HN : Hid (N = min (min l.length r.length) 64) := hN
  have hNl : N ≤ l.length := by omega
  have hNr : N ≤ r.length := by omega
  have hN64 : N ≤ 64 := by omega
  obtain ⟨A, hA⟩ : ∃ A, A = (l.take N).map half := ⟨_, rfl⟩
  obtain ⟨B, hB⟩ : ∃ B, B = (r.take N).map half := ⟨_, rfl⟩
  obtain ⟨C, hC⟩ : ∃ C, C = List.zipWith (· + ·) A B := ⟨_, rfl⟩
  have HAL : Hid (A.length = N) := by show _ = _; rw [hA]; simp; omega
  have HBL : Hid (B.length = N) := by show _ = _; rw [hB]; simp; omega
  have HCL : Hid (C.length = N) := by show _ = _; rw [hC]; simp [HAL.out, HBL.out]
  have HAS : Hid (allS A) := by rw [hA]; exact halves_S _ _
  have HBS : Hid (allS B) := by rw [hB]; exact halves_S _ _
  have HCS : Hid (allS C) := by rw [hC]; exact sums_S A B (by rw [hA]; exact halves_small _ _) (by rw [hB]; exact halves_small _ _)
  have HAG : Hid (∀ (j : Nat) (x : Int), j < N → l[j]? = some x → A[j]? = some (x % 1048576 - 524288)) := by
    intro j x hj hx
    rw [hA]
    simp [List.getElem?_take, hj, hx, half]
  have HBG : Hid (∀ (j : Nat) (x : Int), j < N → r[j]? = some x → B[j]? = some (x % 1048576 - 524288)) := by
    intro j x hj hx
    rw [hB]
    simp [List.getElem?_take, hj, hx, half]
  have HCG : Hid (∀ (j : Nat) (x y : Int), A[j]? = some x → B[j]? = some y → C[j]? = some (x + y)) := by
    intro j x y hx hy
    rw [hC, List.getElem?_zipWith, hx, hy]
  have HRS : Hid (∀ (n j : Nat) (x y z : Int), n ≤ 4 → n + j < A.length → (residZ C n)[j]? = some x → (residZ A n)[j]? = some y → (residZ B n)[j]? = some z → x = y + z) := by
    intro n j x y z h4 hj h1 h2 h3
    rw [hC] at h1
    exact residZ_sums A B n j h4 (by rw [HAL.out, HBL.out]) hj x y z h1 h2 h3
  clear hat hI hle hm hnone hblk hr hn hrat hrI hrle hrm hrnone hrblk hry hN hA hB hC
  go_enter Try.func4, Try.ntmps4
  go_upto_region 1 with fail
  go_cut [7] from 21 to 25 (fun s wx => s = .int .i64 (N : Int) ∧ W = wx)
  case first =>
    go_wp2
    all_goals go_meet
    all_goals
      refine ⟨congrArg (fun z : Int => Value.int .i64 z) ?_, rfl⟩
      have := HN.out
      first | omega | (split at h <;> omega) | (rename_i h1; rw [if_pos h] at h1; omega) | (rename_i h1; rw [if_neg h] at h1; omega) | (simp at *; omega)
  case rest =>
    obtain ⟨rfl, rfl⟩ := hcut
    go_wp2_with fail
    refine (within_any o 5 W ho1 ho2 (by decide) (by decide)).mono ?_
    rw [HNO.out]
    rintro e w2 ⟨rfl, rfl⟩
    go_wp2_with fail
    go_loopw [8, 9, 10, 11] (fun va vb vc i wr => ∃ j : Nat, j ≤ N ∧ i = .int .i64 (j : Int) ∧ Hid (F3 W wr va vb vc (A.take j) (B.take j) (C.take j))) (fun _ _ _ i _ => N - (intOf i).toNat)
    case atStart => exact ⟨0, Nat.zero_le _, rfl, OwnInts.nil _ _, OwnInts.nil _ _, OwnInts.nil _ _, fun k hk => (by cases hk), fun k hk => (by cases hk), fun k hk => (by cases hk), Below.refl _ _⟩
    case round =>
      obtain ⟨j, hj, rfl, hf⟩ := hrel
      by_cases hjn : j < N
      · obtain ⟨x, hx⟩ : ∃ x, l[j]? = some x := ⟨l[j]'(by omega), by simp⟩
        obtain ⟨y, hy⟩ : ∃ y, r[j]? = some y := ⟨r[j]'(by omega), by simp⟩
        obtain ⟨b1, o1, rfl, hc1⟩ := HA.out.mono hf.out.bel j x hx
        obtain ⟨b2, o2, rfl, hc2⟩ := HRA.out.mono hf.out.bel j y hy
        obtain ⟨hx1, hx2⟩ := HI.out x (List.mem_of_getElem? hx)
        obtain ⟨hy1, hy2⟩ := HRI.out y (List.mem_of_getElem? hy)
        obtain ⟨u, hu⟩ : ∃ u, u = x % 1048576 - 524288 := ⟨_, rfl⟩
        obtain ⟨v, hv⟩ : ∃ v, v = y % 1048576 - 524288 := ⟨_, rfl⟩
        have hAj := HAG.out j x hjn hx
        have hBj := HBG.out j y hjn hy
        have hCj := HCG.out j _ _ hAj hBj
        have HAN : Hid (A.take (j + 1) = A.take j ++ [x % 1048576 - 524288]) := take_next A j _ hAj
        have HBN : Hid (B.take (j + 1) = B.take j ++ [y % 1048576 - 524288]) := take_next B j _ hBj
        have HCN : Hid (C.take (j + 1) = C.take j ++ [x % 1048576 - 524288 + (y % 1048576 - 524288)]) := take_next C j _ hCj
        have hla : (A.take j).length ≤ 1000000 := by simp; omega
        have hlb : (B.take j).length ≤ 1000000 := by simp; omega
        have hlc : (C.take j).length ≤ 1000000 := by simp; omega
        have hlx : j < l.length := by omega
        have hlr : j < r.length := by omega
        clear hx hy hu hv hAj hBj hCj u v
        go_wp2_with fail
        go_quiet ((go_at_call 9; refine within_quiet _ _ _ _ (by omega) (by omega) (by decide) (by decide)))
        go_wp2_with (at_builtin; go_must (refine wpList_append_f3 W (wr.drewN nq) rfl (.tmp 45) (.tmp 47) 23 rfl i0 Try.underlying23 hi hz0 hz1 hz2 u8 u9 u10 _ _ _ (by rfl) (hf.out.drewN nq) _ (by rfl) hla ?_))
        intro v1 w1 h1
        go_wp2_with (at_builtin; go_must (refine wpList_append_f3 W w1 rfl (.tmp 49) (.tmp 51) 23 rfl i0 Try.underlying23 hi hz0 hz1 hz2 u9 u10 v1 _ _ _ (by rfl) h1.out.rot _ (by rfl) hlb ?_))
        intro v2 w2 h2
        go_wp2_with (at_builtin; go_must (refine wpList_append_f3 W w2 rfl (.tmp 53) (.tmp 57) 23 rfl i0 Try.underlying23 hi hz0 hz1 hz2 u10 v1 v2 _ _ _ (by rfl) h2.out.rot _ (by rfl) hlc ?_))
        intro v3 w3 h3
        have H3 : Hid (F3 W w3 v1 v2 v3 (A.take (j + 1)) (B.take (j + 1)) (C.take (j + 1))) := by
          rw [HAN.out, HBN.out, HCN.out]
          exact h3.out.rot
        clear h1 h2 h3
        go_wp2_with fail
        exact ⟨⟨j + 1, by omega, by go_num, H3⟩, by (simp [intOf]) <;> omega⟩
      · have e : j = N := by omega
        subst e
        have hf' := hf.out
        rw [List.take_of_length_le (by rw [HAL.out]; exact Nat.le_refl _), List.take_of_length_le (by rw [HBL.out]; exact Nat.le_refl _), List.take_of_length_le (by rw [HCL.out]; exact Nat.le_refl _)] at hf'
        obtain ⟨aa, ac, rfl, hna, -, -⟩ := hf'.a.ns
        obtain ⟨ba, bc, rfl, hnb, -, -⟩ := hf'.b.ns
        obtain ⟨ca, cc, rfl, hnc, -, -⟩ := hf'.c.ns
        have HNA : Hid (Ns wr aa ac A) := hna
        have HNB : Hid (Ns wr ba bc B) := hnb
        have HNC : Hid (Ns wr ca cc C) := hnc
        have HB0 : Hid (Below W.heap.size W wr) := hf'.bel
        have hs0 : W.heap.size ≤ wr.heap.size := hf'.bel.size
        have hA64 : A.length ≤ 64 := by rw [HAL.out]; exact hN64
        have hB64 : B.length ≤ 64 := by rw [HBL.out]; exact hN64
        have hC64 : C.length ≤ 64 := by rw [HCL.out]; exact hN64
        clear hf hf' hna hnb hnc HA HRA HI HRI
        by_cases hshort : j < n
        · go_wp2_with fail
          refine (wakes5_any _).mono ?_
          rintro e w6 ⟨rfl, hb6⟩
          have HB6 : Hid (Below W.heap.size W w6) := HB0.out.trans (hb6.mono hs0)
          clear hb6
          go_wp2
          go_ret
          exact ⟨rfl, HB6.out⟩
        · have hnA : n ≤ A.length := by rw [HAL.out]; omega
          have hnB : n ≤ B.length := by rw [HBL.out]; omega
          have hnC : n ≤ C.length := by rw [HCL.out]; omega
          obtain ⟨L, hL⟩ : ∃ L, L = residZ A n := ⟨_, rfl⟩
          obtain ⟨M, hM⟩ : ∃ M, M = residZ B n := ⟨_, rfl⟩
          obtain ⟨S, hS⟩ : ∃ S, S = residZ C n := ⟨_, rfl⟩
          have HRL : Hid ((L, 0) = resOut A (n : Int)) := by show _ = _; rw [hL]; exact resOut_ok A n (by omega) hnA hA64 HAS.out
          have HRM : Hid ((M, 0) = resOut B (n : Int)) := by show _ = _; rw [hM]; exact resOut_ok B n (by omega) hnB hB64 HBS.out
          have HRC : Hid ((S, 0) = resOut C (n : Int)) := by show _ = _; rw [hS]; exact resOut_ok C n (by omega) hnC hC64 HCS.out
          have HLL : Hid (L.length = j - n) := by show _ = _; rw [hL]; simp [HAL.out]
          have HML : Hid (M.length = j - n) := by show _ = _; rw [hM]; simp [HBL.out]
          have HSL : Hid (S.length = j - n) := by show _ = _; rw [hS]; simp [HCL.out]
          have hLS : ((L.length : Int) != (S.length : Int)) = false := by have := HLL.out; have := HSL.out; simp; omega
          have hMS : ((M.length : Int) != (S.length : Int)) = false := by have := HML.out; have := HSL.out; simp; omega
          have hLS' : S.length ≤ L.length := by have := HLL.out; have := HSL.out; omega
          have hMS' : S.length ≤ M.length := by have := HML.out; have := HSL.out; omega
          have hS64 : S.length ≤ 64 := by have := HSL.out; omega
          have HSUM : Hid (∀ (k : Nat) (x y z : Int), k < S.length → S[k]? = some x → L[k]? = some y → M[k]? = some z → x = y + z) := by
            intro k x y z hk h1 h2 h3
            rw [hS] at h1; rw [hL] at h2; rw [hM] at h3
            have := HSL.out
            exact HRS.out n k x y z (by omega) (by rw [HAL.out]; omega) h1 h2 h3
          have HLB : Hid (∀ x ∈ L, -209715200 ≤ x ∧ x ≤ 209715200) := by rw [hL]; exact residZ_small A n (by omega) HAS.out
          have HMB : Hid (∀ x ∈ M, -209715200 ≤ x ∧ x ≤ 209715200) := by rw [hM]; exact residZ_small B n (by omega) HBS.out
          clear hL hM hS HRS HAG HBG HCG
          go_wp2_with fail
          refine (fresid_any wr aa ac A _ HNA.out (by omega) _ HRL.out).mono ?_
          rintro e w1 hg
          obtain ⟨a1, c1, rfl, -, hn1, hb1⟩ := hg.ok
          have HB1 : Hid (Below W.heap.size W w1) := HB0.out.trans (hb1.mono hs0)
          have HL1 : Hid (IntsAt w1 a1 L) := hn1.at_
          have HNB1 : Hid (Ns w1 ba bc B) := HNB.out.mono hb1
          have HNC1 : Hid (Ns w1 ca cc C) := HNC.out.mono hb1
          have hs1 : W.heap.size ≤ w1.heap.size := HB1.out.size
          clear hg hb1 hn1 HNA HNB HNC HB0 HRL
          go_wp2_with fail
          refine (fresid_any w1 ba bc B _ HNB1.out (by omega) _ HRM.out).mono ?_
          rintro e w2 hg
          obtain ⟨a2, c2, rfl, -, hn2, hb2⟩ := hg.ok
          have HB2 : Hid (Below W.heap.size W w2) := HB1.out.trans (hb2.mono hs1)
          have HL2 : Hid (IntsAt w2 a1 L) := HL1.out.mono hb2
          have HM2 : Hid (IntsAt w2 a2 M) := hn2.at_
          have HNC2 : Hid (Ns w2 ca cc C) := HNC1.out.mono hb2
          have hs2 : W.heap.size ≤ w2.heap.size := HB2.out.size
          clear hg hb2 hn2 HNB1 HNC1 HB1 HRM HL1
          go_wp2_with fail
          refine (fresid_any w2 ca cc C _ HNC2.out (by omega) _ HRC.out).mono ?_
          rintro e w3 hg
          obtain ⟨a3, c3, rfl, -, hn3, hb3⟩ := hg.ok
          have HB3 : Hid (Below W.heap.size W w3) := HB2.out.trans (hb3.mono hs2)
          have HL3 : Hid (IntsAt w3 a1 L) := HL2.out.mono hb3
          have HM3 : Hid (IntsAt w3 a2 M) := HM2.out.mono hb3
          have HS3 : Hid (IntsAt w3 a3 S) := hn3.at_
          have hs3 : W.heap.size ≤ w3.heap.size := HB3.out.size
          clear hg hb3 hn3 HNC2 HB2 HRC HL2 HM2
          go_wp2_with fail
          go_loopw [107] (fun i wr => ∃ k m : Nat, k ≤ S.length ∧ i = .int .i64 k ∧ wr = w3.drewN m) (fun i _ => S.length - (intOf i).toNat)
          case atStart => exact ⟨0, 0, Nat.zero_le _, rfl, rfl⟩
          case round =>
            obtain ⟨k, m, hk, rfl, rfl⟩ := hrel
            by_cases hkn : k < S.length
            · obtain ⟨x, hx⟩ : ∃ x, S[k]? = some x := ⟨S[k], by simp [hkn]⟩
              obtain ⟨y, hy⟩ : ∃ y, L[k]? = some y := ⟨L[k]'(by omega), by simp⟩
              obtain ⟨z, hz⟩ : ∃ z, M[k]? = some z := ⟨M[k]'(by omega), by simp⟩
              obtain ⟨b1, o1, rfl, e1⟩ := HS3.out k x hx
              obtain ⟨b2, o2, rfl, e2⟩ := HL3.out k y hy
              obtain ⟨b3, o3, rfl, e3⟩ := HM3.out k z hz
              have hxyz := HSUM.out k x y z hkn hx hy hz
              subst hxyz
              obtain ⟨hy1, hy2⟩ := HLB.out y (List.mem_of_getElem? hy)
              obtain ⟨hz1, hz2⟩ := HMB.out z (List.mem_of_getElem? hz)
              have hkL : k < L.length := by omega
              have hkM : k < M.length := by omega
              clear hx hy hz
              go_wp2_with fail
              go_quiet (fail)
              go_wp2_with fail
              exact ⟨⟨k + 1, m + nq, by omega, by go_num, rfl⟩, by (simp [intOf]) <;> omega⟩
            · go_wp2_with fail
              refine (wakes5_any _).mono ?_
              rintro e w7 ⟨rfl, hb7⟩
              have HB7 : Hid (Below W.heap.size W w7) := (below_drewN HB3.out m).trans (hb7.mono hs3)
              clear hb7
              go_wp2
              go_ret
              exact ⟨rfl, HB7.out⟩

end Go.Proofs.Ytepnjglhchbknaa
