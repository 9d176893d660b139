/- LpcNoughts: the walk of the law. -/
import Derived.Test.YtgikbcicjeeofaaLpc5
import Derived.Test.YtgikbcicjeeofaaIntsC
namespace Go.Proofs.Ytgikbcicjeeofaa
set_option linter.unusedVariables false
set_option linter.unusedSimpArgs false
open Go.RowKit Dg

theorem term_zero (x : Int) : term 0 x = 0 := by
  unfold term
  split <;> simp
theorem lsum_two (past cs : List Int) (k : Nat) : lsum past (cs ++ [0, 0]) k = lsum past cs k := by
  induction k with
  | zero => rfl
  | succ k ih =>
    simp only [lsum]
    rw [ih]
    have e : (cs ++ [0, 0]).getD k 0 = cs.getD k 0 := by
      by_cases h : k < cs.length
      · simp [List.getD, List.getElem?_append_left h]
      · simp only [List.getD]
        rw [List.getElem?_append_right (by omega), List.getElem?_eq_none (l := cs) (by omega)]
        match k - cs.length with
        | 0 => rfl
        | 1 => rfl
        | n + 2 => rfl
    rw [e]
theorem lsum_past (past cs : List Int) (k d : Nat) (h : cs.length ≤ k) : lsum past cs (k + d) = lsum past cs k := by
  induction d with
  | zero => rfl
  | succ d ih =>
    show lsum past cs (k + d) + term (cs.getD (k + d) 0) _ = _
    have e : cs.getD (k + d) 0 = 0 := by simp only [List.getD]; rw [List.getElem?_eq_none (by omega)]; rfl
    rw [e, term_zero, ih]
    omega
theorem lguess_two (past cs : List Int) (h : cs.length ≤ 10) : lguess past cs = lguess past (cs ++ [0, 0]) := by
  unfold lguess
  rw [lsum_two]
  have e : terms past cs = terms past (cs ++ [0, 0]) ∨ (cs.length = terms past cs ∧ ∃ d, terms past (cs ++ [0, 0]) = terms past cs + d) := by
    unfold terms
    simp
    by_cases hp : past.length ≤ cs.length
    · left; omega
    · right
      exact ⟨by omega, min (min past.length (cs.length + 2)) 12 - min (min past.length cs.length) 12, by omega⟩
  rcases e with e | ⟨e1, d, e2⟩
  · rw [e]
  · rw [e2, lsum_past past cs _ d (by omega)]
theorem lguess_none (past : List Int) : (0 : Int) = lguess past [] := by
  have e : terms past [] = 0 := by unfold terms; simp
  unfold lguess
  rw [e]
  rfl
theorem lguess_nil (cs : List Int) : (0 : Int) = lguess [] cs := by
  have e : terms [] cs = 0 := by unfold terms; simp
  unfold lguess
  rw [e]
  rfl
theorem lguess_zeros (past : List Int) (n : Nat) : lguess past (List.replicate n 0) = 0 := by
  have e : ∀ k, lsum past (List.replicate n 0) k = 0 := by
    intro k
    induction k with
    | zero => rfl
    | succ k ih =>
      simp only [lsum]
      have e : (List.replicate n (0 : Int)).getD k 0 = 0 := by
        simp only [List.getD]
        by_cases h : k < n
        · simp [h]
        · rw [List.getElem?_eq_none (by simp; omega)]; rfl
      rw [ih, e, term_zero]
      rfl
  unfold lguess
  rw [e]
  rfl
theorem areC_zeros (n : Nat) (h1 : 1 ≤ n) (h2 : n ≤ 12) : areC (List.replicate n 0) := by
  refine ⟨by simpa using h1, by simpa using h2, fun x hx => ?_⟩
  have := List.eq_of_mem_replicate hx
  subst this
  unfold isC
  omega
theorem lresidZ_zeros (l : List Int) (n : Nat) : lresidZ l (List.replicate n 0) = l.drop n := by
  apply List.ext_getElem?
  intro k
  by_cases hk : n + k < l.length
  · have h := lresidZ_get l (List.replicate n 0) (n + k) (by simp) hk
    rw [lguess_zeros] at h
    simp only [List.length_replicate] at h
    rw [show n + k - n = k by omega] at h
    rw [h, List.getElem?_drop]
    simp [List.getD, hk]
  · rw [List.getElem?_eq_none (by simp; omega), List.getElem?_eq_none (by simp; omega)]

set_option maxRecDepth 100000 in
set_option maxHeartbeats 4000000 in
theorem lnought_any (W : World) (a : Option Addr) (len cap : Nat) (z : List Int) (ca : Option Addr) (clen ccap : Nat) (cz : List Int) (n : Int) (hr : IsRow .i64 W a len cap z) (hc : IsRow .i64 W ca clen ccap cz) (hn : I64 n) :
    Calls Try.prog 3 #[.slice a len cap, .slice ca clen ccap, .int .i64 n] W fun e W' => e = .returned (.bool true) ∧ Below W.heap.size W W' := by
  obtain ⟨i0, hi, hz0, hz1, hz2⟩ := info_parts Try.info3
  obtain ⟨l, hll, hI, hat, hle, hm, hnone, hblk⟩ := hr.ints
  obtain ⟨cl, hcl, hcI, hcat, hcle, hcm, hcnone, hcblk⟩ := hc.ints
  obtain ⟨hn1, hn2⟩ := hn
  subst hll hcl
  have HA : Hid (IntsAt W a l) := hat
  have HI : Hid (∀ x ∈ l, I64 x) := hI
  have HM : Hid (l.length ≤ maxLen) := Nat.le_trans hle hm
  have HCA : Hid (IntsAt W ca cl) := hcat
  have HCI : Hid (∀ x ∈ cl, I64 x) := hcI
  have HCM : Hid (cl.length ≤ maxLen) := Nat.le_trans hcle hcm
  obtain ⟨M, hM⟩ : ∃ M : Nat, (M : Int) = 1 + n % 12 := ⟨(1 + n % 12).toNat, by omega⟩
  obtain ⟨Z, hZ⟩ : ∃ Z : List Int, Z = List.replicate M 0 := ⟨_, rfl⟩
  have hZL : Z.length = M := by rw [hZ]; simp
  have HZ : Hid (Z = List.replicate Z.length 0) := by show _ = _; rw [hZL]; exact hZ
  have HL : Hid (1 + n % 12 = (Z.length : Int)) := by show _ = _; omega
  have hZ1 : 1 ≤ Z.length := by omega
  have hZ12 : Z.length ≤ 12 := by omega
  have HZC : Hid (areC Z) := by rw [HZ.out]; exact areC_zeros _ hZ1 hZ12
  clear hat hI hle hm hnone hblk hr hcI hcat hcle hcm hcnone hcblk hc hM hZ hZL
  go_enter Try.func3, Try.ntmps3
  go_wp2_with fail
  refine (samples_any W a cap 64 l false HA.out HM.out HI.out (by decide)).mono ?_
  rintro e w1 ⟨v1, xs, rfl, hv1, hxl, -, hxS, hb1⟩
  obtain ⟨a1, c1, rfl, hn1', hor1, hm1⟩ := hv1.ns
  have hx64 : xs.length ≤ 64 := by omega
  have HS : Hid (allS xs) := hxS rfl
  have HB1 : Hid (Below W.heap.size W w1) := hb1
  have HN1 : Hid (Ns w1 a1 c1 xs) := hn1'
  have HCA1 : Hid (IntsAt w1 ca cl) := HCA.out.mono hb1
  have hs1 : W.heap.size ≤ w1.heap.size := hb1.size
  clear hv1 hxl hb1 hn1' hor1 hm1 HA HI HM HCA hxS
  go_wp2_with fail
  refine (within_any n 12 w1 hn1 hn2 (by decide) (by decide)).mono ?_
  rintro e w0 ⟨rfl, rfl⟩
  go_wp2_with (at_make; go_must (refine wpList_make_full _ rfl _ _ 22 rfl w1.heap.size 3 i0 (.int .i64 0) 1 Try.underlying22 hi hz0 hz1 _ _ _ _ Z.length rfl rfl HL.out HL.out (by rw [hz2]; omega) (by unfold maxLen; omega) (Nat.le_refl _) ?_))
  intro w2 hown hgr
  have hb2 : Below w1.heap.size w1 w2 := (Below.refl _ _).grown hgr (Nat.le_refl _) (fun k hk => by cases hk)
  have ho2 : OwnInts w2 w1.heap.size (.slice (some ⟨w1.heap.size, 0, none⟩) Z.length Z.length) Z := OwnInts.made HZ.out hown
  obtain ⟨za, hza⟩ : ∃ za : Option Addr, za = some ⟨w1.heap.size, 0, none⟩ := ⟨_, rfl⟩
  rw [← hza] at ho2 ⊢
  rw [HL.out]
  have HZ2 : Hid (IntsAt w2 za Z) := ho2.at
  have HB2 : Hid (Below W.heap.size W w2) := HB1.out.trans (hb2.mono hs1)
  have HN2 : Hid (Ns w2 a1 c1 xs) := HN1.out.mono hb2
  have HCA2 : Hid (IntsAt w2 ca cl) := HCA1.out.mono hb2
  have hs2 : W.heap.size ≤ w2.heap.size := HB2.out.size
  clear hown hgr hb2 ho2 hza HB1 HN1 HCA1
  go_wp2_with fail
  refine (coefs6_any w2 ca ccap cl false HCA2.out HCM.out HCI.out).mono ?_
  rintro e w3 ⟨v3, zs, rfl, hv3, hcl3, -, -, hb3⟩
  obtain ⟨a3, c3, rfl, hn3', hor3, hm3⟩ := hv3.ns
  obtain ⟨cs, hcs⟩ : ∃ cs, cs = zs.take 10 := ⟨_, rfl⟩
  have HCL : Hid (min zs.length 10 = cs.length) := by show _ = _; rw [hcs]; simp; omega
  have hc10 : cs.length ≤ 10 := by rw [hcs]; simp; omega
  have HB3 : Hid (Below W.heap.size W w3) := HB2.out.trans (hb3.mono hs2)
  have HN3 : Hid (Ns w3 a1 c1 xs) := HN2.out.mono hb3
  have HZ3 : Hid (IntsAt w3 za Z) := HZ2.out.mono hb3
  have HC3 : Hid (IntsAt w3 a3 cs) := by rw [hcs]; exact hn3'.at_.take 10
  have HXN : Hid (zs.length ≤ c3 ∧ c3 ≤ maxLen ∧ (a3 = none → zs.length = 0 ∧ c3 = 0)) := ⟨hn3'.le, hm3, fun e => by have h1 := hn3'.nil e; have h2 := hn3'.le; omega⟩
  have HOR : Hid (a3 = none ∧ cs = [] ∧ c3 = 0 ∨ ∃ g, a3 = some ⟨g, 0, none⟩) := by
    rcases hor3 with ⟨h1, h2, h3⟩ | h
    · exact .inl ⟨h1, by rw [hcs, h2]; rfl, h3⟩
    · exact .inr h
  have hs3 : W.heap.size ≤ w3.heap.size := HB3.out.size
  clear hv3 hcl3 hb3 hn3' HB2 HN2 HCA2 HZ2 HCI HCM hm3 hor3 hcs
  go_wp2_with fail
  refine (cutInt_any w3 a3 zs.length c3 10 (by decide) HXN.out.1 HXN.out.2.1 HXN.out.2.2).mono ?_
  rw [HCL.out]
  rintro e w0 ⟨rfl, rfl⟩
  clear HXN HCL
  obtain ⟨g, hg⟩ : ∃ g, g = lguess xs cs := ⟨_, rfl⟩
  have HG := hid_of hg
  obtain ⟨ds, hds⟩ : ∃ ds, ds = cs ++ [0, 0] := ⟨_, rfl⟩
  have HDS := hid_of hds
  have hd12 : ds.length ≤ 12 := by rw [hds]; simp; omega
  have HG2 : Hid (g = lguess xs ds) := by show _ = _; rw [hg, hds]; exact lguess_two xs cs hc10
  clear hg hds
  go_wp2_with fail
  refine (lguess_any w3 a1 a3 _ _ c1 c3 xs cs rfl rfl HN3.out.at_ HC3.out (by omega) (by omega) g HG.out).mono ?_
  rintro e w0 ⟨rfl, rfl⟩
  go_wp2_with fail
  refine (copyInt_any w3 a3 c3 cs HC3.out (by omega) HOR.out).mono ?_
  rintro e w4 ⟨v4, rfl, hv4, hb4⟩
  have HV4 : Hid (OwnInts w4 w3.heap.size v4 cs) := hv4
  have HB4 : Hid (Below w3.heap.size w3 w4) := hb4
  have hs4 : w3.heap.size ≤ w4.heap.size := hb4.size
  clear hv4 hb4
  go_wp2_with (at_builtin; go_must (refine wpList_append_ints _ rfl (.tmp 25) (.tmp 26) rfl w3.heap.size _ cs rfl (World.ownsRow.alloc HV4.out _) (some ⟨w4.heap.size, 0, none⟩) 2 [0, 0] rfl (Ns.lit w4 [0, 0] 2 rfl (by decide) _ rfl) (by simp; omega) (by simp; omega) ?_))
  intro v5 w5 hv5 hk5 hd5
  rw [← HDS.out] at hv5
  obtain ⟨a5, c5, rfl, hn5, -, -⟩ := hv5.out.ns
  have hb5 : Below w3.heap.size w3 w5 := hk5.out.below_of (HB4.out.alloc hs4 _) (fun k hk => (World.ownsRow.lt HV4.out k hk).1) (by simp; omega)
  have HB5 : Hid (Below W.heap.size W w5) := HB3.out.trans (hb5.mono hs3)
  have HN5 : Hid (Ns w5 a1 c1 xs) := HN3.out.mono hb5
  have HZ5 : Hid (IntsAt w5 za Z) := HZ3.out.mono hb5
  have HC5 : Hid (IntsAt w5 a3 cs) := HC3.out.mono hb5
  have HD5 : Hid (IntsAt w5 a5 ds) := hn5.at_
  have hs5 : W.heap.size ≤ w5.heap.size := HB5.out.size
  clear hv5 hk5 hd5 hn5 hb5 HB3 HN3 HZ3 HC3 HV4 HB4 HOR
  go_wp2_with fail
  refine (lguess_any w5 a1 a5 _ _ c1 c5 xs ds rfl rfl HN5.out.at_ HD5.out (by omega) (by omega) g HG2.out).mono ?_
  rintro e w0 ⟨rfl, rfl⟩
  go_wp2_with fail
  refine (lguess_any w5 a1 none _ _ c1 0 xs [] rfl rfl HN5.out.at_ (IntsAt.nil _ _) (by omega) (by simp) 0 (lguess_none xs)).mono ?_
  rintro e w0 ⟨rfl, rfl⟩
  go_wp2_with fail
  refine (lguess_any w5 none a3 _ _ 0 c3 [] cs rfl rfl (IntsAt.nil _ _) HC5.out (by simp) (by omega) 0 (lguess_nil cs)).mono ?_
  rintro e w0 ⟨rfl, rfl⟩
  by_cases hshort : xs.length < Z.length
  · have HR : Hid (([], 1) = lresOut xs Z) := by show _ = _; unfold lresOut; rw [if_pos (.inr hshort)]
    go_wp2_with fail
    refine (lresid_any w5 a1 za c1 _ xs Z HN5.out HZ5.out (by omega) (by omega) _ HR.out).mono ?_
    rintro e w6 hg
    obtain ⟨a6, c6, rfl, -, -, hb6⟩ := hg.ok
    have HB6 : Hid (Below W.heap.size W w6) := HB5.out.trans (hb6.mono hs5)
    have hs6 : W.heap.size ≤ w6.heap.size := HB6.out.size
    clear hg hb6
    go_wp2_with fail
    refine (wakes6_any _).mono ?_
    rintro e w7 ⟨rfl, hb7⟩
    have HB7 : Hid (Below W.heap.size W w7) := HB6.out.trans (hb7.mono hs6)
    clear hb7
    go_wp2
    go_ret
    exact ⟨rfl, HB7.out⟩
  · obtain ⟨L, hL⟩ : ∃ L, L = xs.drop Z.length := ⟨_, rfl⟩
    have HLL : Hid (xs.length - Z.length = L.length) := by show _ = _; rw [hL]; simp
    have hL64 : L.length ≤ 64 := by rw [hL]; simp; omega
    have HR : Hid ((L, 0) = lresOut xs Z) := by
      show _ = _
      unfold lresOut
      rw [if_neg (by simp [HZC.out]; omega), if_pos HS.out, if_neg (by omega), hL]
      have e := lresidZ_zeros xs Z.length
      rw [← HZ.out] at e
      rw [e]
    have hslw : ∀ w : World, (Instr.sliceAt 22 (.slice a1 xs.length c1) (some (.int .i64 (Z.length : Int))) none none).run Try.prog w = .ok (.slice (lowI a1 c1 Z.length) L.length (c1 - Z.length)) w := by
      rw [← HLL.out]
      exact slice_ints_lo a1 xs.length c1 Z.length (by omega)
    have HX5 : Hid (IntsAt w5 (lowI a1 c1 Z.length) L) := by rw [hL]; exact HN5.out.at_.drop HN5.out.le Z.length
    clear hL
    go_wp2_with fail
    refine (lresid_any w5 a1 za c1 _ xs Z HN5.out HZ5.out (by omega) (by omega) _ HR.out).mono ?_
    rintro e w6 hg
    obtain ⟨a6, c6, rfl, -, hn6, hb6⟩ := hg.ok
    have HB6 : Hid (Below W.heap.size W w6) := HB5.out.trans (hb6.mono hs5)
    have HL6 : Hid (IntsAt w6 a6 L) := hn6.at_
    have HX6 : Hid (IntsAt w6 (lowI a1 c1 Z.length) L) := HX5.out.mono hb6
    have hs6 : W.heap.size ≤ w6.heap.size := HB6.out.size
    clear hg hb6 hn6
    go_wp2_with fail
    refine (sameInt_any w6 a6 (lowI a1 c1 Z.length) c6 _ L HL6.out HX6.out (by omega)).mono ?_
    rintro e w7 ⟨rfl, n7, rfl⟩
    go_wp2_with fail
    refine (wakes6_any _).mono ?_
    rintro e w8 ⟨rfl, hb8⟩
    have HB8 : Hid (Below W.heap.size W w8) := (below_drewN HB6.out n7).trans (hb8.mono hs6)
    clear hb8
    go_wp2
    go_ret
    exact ⟨rfl, HB8.out⟩

end Go.Proofs.Ytgikbcicjeeofaa
