/- FixedPowers: the walk of the law. -/
import Derived.Test.YtepnjglhchbknaaXMath
namespace Go.Proofs.Ytepnjglhchbknaa
set_option linter.unusedVariables false
set_option linter.unusedSimpArgs false
open Go.RowKit Dg

theorem pow3 (a b c d t : Int) : (a + b*(t+4) + c*(t+4)*(t+4) + d*(t+4)*(t+4)*(t+4)) - (4*(a + b*(t+3) + c*(t+3)*(t+3) + d*(t+3)*(t+3)*(t+3)) - 6*(a + b*(t+2) + c*(t+2)*(t+2) + d*(t+2)*(t+2)*(t+2)) + 4*(a + b*(t+1) + c*(t+1)*(t+1) + d*(t+1)*(t+1)*(t+1)) - (a + b*t + c*t*t + d*t*t*t)) = 0 := by grind
theorem pow2 (a b c t : Int) : (a + b*(t+3) + c*(t+3)*(t+3)) - (3*(a + b*(t+2) + c*(t+2)*(t+2)) - 3*(a + b*(t+1) + c*(t+1)*(t+1)) + (a + b*t + c*t*t)) = 0 := by grind
theorem pow1 (a b t : Int) : (a + b*(t+2)) - (2*(a + b*(t+1)) - (a + b*t)) = 0 := by grind
/-- A power's row at a place. -/
def pows (g : Nat) (a b c d t : Int) : Int :=
  match g with
  | 0 => a
  | 1 => a + b * t
  | 2 => a + b * t + c * t * t
  | _ => a + b * t + c * t * t + d * t * t * t
theorem pows_tell (g : Nat) (hg : g ≤ 3) (a b c d : Int) (f : Nat → Int) (N j : Nat) (hf : ∀ i, i < N → f i = pows g a b c d (i : Int)) (hj : g + 1 + j < N) : f (g + 1 + j) - tell (g + 1) f (g + 1 + j) = 0 := by
  rcases (by omega : g = 0 ∨ g = 1 ∨ g = 2 ∨ g = 3) with rfl | rfl | rfl | rfl
  · simp only [tell, Nat.zero_add]
    rw [hf _ (by omega), hf _ (by omega)]
    simp [pows]
  · simp only [tell]
    rw [show 1 + 1 + j = j + 2 by omega]
    simp only [show j + 2 - 1 = j + 1 by omega, show j + 2 - 2 = j by omega]
    rw [hf _ (by omega), hf _ (by omega), hf _ (by omega)]
    simp only [pows]
    have := pow1 a b (j : Int)
    simpa using this
  · simp only [tell]
    rw [show 2 + 1 + j = j + 3 by omega]
    simp only [show j + 3 - 1 = j + 2 by omega, show j + 3 - 2 = j + 1 by omega, show j + 3 - 3 = j by omega]
    rw [hf _ (by omega), hf _ (by omega), hf _ (by omega), hf _ (by omega)]
    simp only [pows]
    have := pow2 a b c (j : Int)
    simpa using this
  · simp only [tell]
    rw [show 3 + 1 + j = j + 4 by omega]
    simp only [show j + 4 - 1 = j + 3 by omega, show j + 4 - 2 = j + 2 by omega, show j + 4 - 3 = j + 1 by omega, show j + 4 - 4 = j by omega]
    rw [hf _ (by omega), hf _ (by omega), hf _ (by omega), hf _ (by omega), hf _ (by omega)]
    simp only [pows]
    have := pow3 a b c d (j : Int)
    simpa using this
/-- Its first numbers. -/
def powRow (g : Nat) (a b c d : Int) (N : Nat) : List Int := (List.range N).map fun i : Nat => pows g a b c d (i : Int)
@[simp] theorem length_powRow (g : Nat) (a b c d : Int) (N : Nat) : (powRow g a b c d N).length = N := by simp [powRow]
theorem powRow_get (g : Nat) (a b c d : Int) (N j : Nat) (hj : j < N) : (powRow g a b c d N)[j]? = some (pows g a b c d (j : Int)) := by
  unfold powRow
  rw [List.getElem?_map, List.getElem?_range hj]
  rfl
theorem powRow_left (g : Nat) (hg : g ≤ 3) (a b c d : Int) (N : Nat) : ∀ x ∈ residZ (powRow g a b c d N) (g + 1), x = 0 := by
  intro x hx
  obtain ⟨j, hj, rfl⟩ := List.getElem_of_mem hx
  have hjl : g + 1 + j < N := by simp at hj; omega
  have e := residZ_at (powRow g a b c d N) (g + 1) j (by omega) (by simpa using hjl)
  have e2 : (residZ (powRow g a b c d N) (g + 1))[j]? = some (residZ (powRow g a b c d N) (g + 1))[j] := by simp [hj]
  rw [e2] at e
  simp only [Option.some.injEq] at e
  rw [e]
  refine pows_tell g hg a b c d _ N j ?_ hjl
  intro i hi
  unfold at0
  exact getD_of (powRow_get g a b c d N i hi)
theorem mul_bd {c i B : Int} (h1 : -B ≤ c) (h2 : c ≤ B) (hi : 0 ≤ i) : -B * i ≤ c * i ∧ c * i ≤ B * i :=
  ⟨Int.mul_le_mul_of_nonneg_right h1 hi, Int.mul_le_mul_of_nonneg_right h2 hi⟩
/-- The products of a place, all of them small. -/
theorem prods (b c d : Int) (j : Nat) (hb : -100 ≤ b ∧ b ≤ 100) (hc : -10 ≤ c ∧ c ≤ 10) (hd : -2 ≤ d ∧ d ≤ 2) (hj : j < 64) :
    ∃ p c1 c2 d1 d2 d3 : Int, b * (j : Int) = p ∧ c * (j : Int) = c1 ∧ c1 * (j : Int) = c2 ∧ d * (j : Int) = d1 ∧ d1 * (j : Int) = d2 ∧ d2 * (j : Int) = d3 ∧
      (-6300 ≤ p ∧ p ≤ 6300) ∧ (-630 ≤ c1 ∧ c1 ≤ 630) ∧ (-39690 ≤ c2 ∧ c2 ≤ 39690) ∧ (-126 ≤ d1 ∧ d1 ≤ 126) ∧ (-7938 ≤ d2 ∧ d2 ≤ 7938) ∧ (-500094 ≤ d3 ∧ d3 ≤ 500094) := by
  have hj0 : (0 : Int) ≤ (j : Int) := by omega
  have h1 := mul_bd hb.1 hb.2 hj0
  have h2 := mul_bd hc.1 hc.2 hj0
  have h2' : -630 ≤ c * (j : Int) ∧ c * (j : Int) ≤ 630 := by omega
  have h3 := mul_bd h2'.1 h2'.2 hj0
  have h4 := mul_bd hd.1 hd.2 hj0
  have h4' : -126 ≤ d * (j : Int) ∧ d * (j : Int) ≤ 126 := by omega
  have h5 := mul_bd h4'.1 h4'.2 hj0
  have h5' : -7938 ≤ d * (j : Int) * (j : Int) ∧ d * (j : Int) * (j : Int) ≤ 7938 := by omega
  have h6 := mul_bd h5'.1 h5'.2 hj0
  exact ⟨_, _, _, _, _, _, rfl, rfl, rfl, rfl, rfl, rfl, by omega, h2', by omega, h4', h5', by omega⟩
theorem powRow_S (g : Nat) (a b c d : Int) (N : Nat) (hN : N ≤ 64) (ha : 0 ≤ a ∧ a ≤ 999) (hb : -100 ≤ b ∧ b ≤ 100) (hc : -10 ≤ c ∧ c ≤ 10) (hd : -2 ≤ d ∧ d ≤ 2) : allS (powRow g a b c d N) := by
  intro x hx
  unfold powRow at hx
  obtain ⟨j, hj, rfl⟩ := List.mem_map.1 hx
  simp at hj
  obtain ⟨p, c1, c2, d1, d2, d3, e1, e2, e3, e4, e5, e6, b1, b2, b3, b4, b5, b6⟩ := prods b c d j hb hc hd (by omega)
  unfold isS pows
  split <;> (try simp only [e1, e2, e3, e4, e5, e6]) <;> omega

set_option maxRecDepth 100000 in
set_option maxHeartbeats 8000000 in
theorem xpow_any (W : World) (a0 b0 c0 d0 n0 g0 : Int) (ha : I64 a0) (hb : I64 b0) (hc : I64 c0) (hd : I64 d0) (hn : I64 n0) (hg : I64 g0) :
    Calls Try.prog 3 #[.int .i64 a0, .int .i64 b0, .int .i64 c0, .int .i64 d0, .int .i64 n0, .int .i64 g0] W fun e W' => e = .returned (.bool true) ∧ Below W.heap.size W W' := by
  obtain ⟨i0, hi, hz0, hz1, hz2⟩ := info_parts Try.info3
  obtain ⟨ha1, ha2⟩ := ha
  obtain ⟨hb1, hb2⟩ := hb
  obtain ⟨hc1, hc2⟩ := hc
  obtain ⟨hd1, hd2⟩ := hd
  obtain ⟨hn1, hn2⟩ := hn
  obtain ⟨hg1, hg2⟩ := hg
  obtain ⟨a, haE⟩ : ∃ a, a = a0 % 1000 := ⟨_, rfl⟩
  obtain ⟨b, hbE⟩ : ∃ b, b = b0 % 200 - 100 := ⟨_, rfl⟩
  obtain ⟨c, hcE⟩ : ∃ c, c = c0 % 20 - 10 := ⟨_, rfl⟩
  obtain ⟨d, hdE⟩ : ∃ d, d = d0 % 5 - 2 := ⟨_, rfl⟩
  obtain ⟨N, hNE⟩ : ∃ N : Nat, (N : Int) = 5 + n0 % 60 := ⟨(5 + n0 % 60).toNat, by omega⟩
  obtain ⟨g, hgE⟩ : ∃ g : Nat, (g : Int) = g0 % 4 := ⟨(g0 % 4).toNat, by omega⟩
  have HA : Hid (a0 % 1000 = a) := haE.symm
  have HBE : Hid (b0 % 200 = b + 100) := by show _ = _; omega
  have HCE : Hid (c0 % 20 = c + 10) := by show _ = _; omega
  have HDE : Hid (d0 % 5 = d + 2) := by show _ = _; omega
  have HNE : Hid (n0 % 60 = (N : Int) - 5) := by show _ = _; omega
  have HGE : Hid (g0 % 4 = (g : Int)) := hgE.symm
  have ha3 : 0 ≤ a ∧ a ≤ 999 := by omega
  have hb3 : -100 ≤ b ∧ b ≤ 100 := by omega
  have hc3 : -10 ≤ c ∧ c ≤ 10 := by omega
  have hd3 : -2 ≤ d ∧ d ≤ 2 := by omega
  have hN5 : 5 ≤ N := by omega
  have hN64 : N ≤ 64 := by omega
  have hg3 : g ≤ 3 := by omega
  clear haE hbE hcE hdE hNE hgE
  obtain ⟨X, hX⟩ : ∃ X, X = powRow g a b c d N := ⟨_, rfl⟩
  have HX := hid_of hX
  have HXL : Hid (X.length = N) := by show _ = _; rw [hX]; simp
  have HXS : Hid (allS X) := by rw [hX]; exact powRow_S g a b c d N hN64 ha3 hb3 hc3 hd3
  have HXG : Hid (∀ j, j < N → X[j]? = some (pows g a b c d (j : Int))) := by intro j hj; rw [hX]; exact powRow_get g a b c d N j hj
  clear hX
  go_enter Try.func3, Try.ntmps3
  go_wp2_with fail
  refine (within_any a0 1000 W ha1 ha2 (by decide) (by decide)).mono ?_
  rw [HA.out]
  rintro e w1 ⟨rfl, rfl⟩
  go_wp2_with fail
  refine (within_any b0 200 W hb1 hb2 (by decide) (by decide)).mono ?_
  rw [HBE.out]
  rintro e w1 ⟨rfl, rfl⟩
  go_wp2_with fail
  refine (within_any c0 20 W hc1 hc2 (by decide) (by decide)).mono ?_
  rw [HCE.out]
  rintro e w1 ⟨rfl, rfl⟩
  go_wp2_with fail
  refine (within_any d0 5 W hd1 hd2 (by decide) (by decide)).mono ?_
  rw [HDE.out]
  rintro e w1 ⟨rfl, rfl⟩
  go_wp2_with fail
  refine (within_any n0 60 W hn1 hn2 (by decide) (by decide)).mono ?_
  rw [HNE.out]
  rintro e w1 ⟨rfl, rfl⟩
  go_wp2_with fail
  refine (within_any g0 4 W hg1 hg2 (by decide) (by decide)).mono ?_
  rw [HGE.out]
  rintro e w1 ⟨rfl, rfl⟩
  have eb : b + 100 - 100 = b := by omega
  have ec : c + 10 - 10 = c := by omega
  have ed : d + 2 - 2 = d := by omega
  have en : 5 + ((N : Int) - 5) = (N : Int) := by omega
  go_wp2_with fail
  clear eb ec ed en
  go_loopw [13, 14] (fun v i wr => ∃ j : Nat, j ≤ N ∧ i = .int .i64 (j : Int) ∧ Hid (OwnInts wr W.heap.size v (X.take j)) ∧ Hid (Below W.heap.size W wr)) (fun _ i _ => N - (intOf i).toNat)
  case atStart => exact ⟨0, Nat.zero_le _, rfl, OwnInts.nil _ _, Below.refl _ _⟩
  case round =>
    obtain ⟨j, hj, rfl, ho, hbl⟩ := hrel
    by_cases hjn : j < N
    · obtain ⟨p, c1, c2, d1, d2, d3, e1, e2, e3, e4, e5, e6, ⟨b1l, b1u⟩, ⟨b2l, b2u⟩, ⟨b3l, b3u⟩, ⟨b4l, b4u⟩, ⟨b5l, b5u⟩, ⟨b6l, b6u⟩⟩ := prods b c d j hb3 hc3 hd3 (by omega)
      have hxl : (X.take j).length ≤ 1000000 := by simp; omega
      have hsz : W.heap.size ≤ wr.heap.size := hbl.out.size
      have hnx := take_next X j _ (HXG.out j hjn)
      have hgc : (¬ 0 < g ∧ ¬ 1 < g ∧ ¬ 2 < g ∧ Hid (X.take (j + 1) = X.take j ++ [a])) ∨ (0 < g ∧ ¬ 1 < g ∧ ¬ 2 < g ∧ Hid (X.take (j + 1) = X.take j ++ [a + p])) ∨ (0 < g ∧ 1 < g ∧ ¬ 2 < g ∧ Hid (X.take (j + 1) = X.take j ++ [a + p + c2])) ∨ (0 < g ∧ 1 < g ∧ 2 < g ∧ Hid (X.take (j + 1) = X.take j ++ [a + p + c2 + d3])) := by
        rcases (by omega : g = 0 ∨ g = 1 ∨ g = 2 ∨ g = 3) with h | h | h | h
        · exact .inl (⟨by omega, by omega, by omega, by show _ = _; rw [hnx, h]; simp [pows]⟩)
        · exact .inr (.inl (⟨by omega, by omega, by omega, by show _ = _; rw [hnx, h]; simp [pows, e1]⟩))
        · exact .inr (.inr (.inl (⟨by omega, by omega, by omega, by show _ = _; rw [hnx, h]; simp [pows, e1, e2, e3]⟩)))
        · exact .inr (.inr (.inr (⟨by omega, by omega, by omega, by show _ = _; rw [hnx, h]; simp [pows, e1, e2, e3, e4, e5, e6]⟩)))
      clear hnx
      rcases hgc with ⟨q0, q1, q2, HNX⟩ | ⟨q0, q1, q2, HNX⟩ | ⟨q0, q1, q2, HNX⟩ | ⟨q0, q1, q2, HNX⟩
      all_goals
        go_wp2_with (at_builtin; go_must (refine wpList_append_int _ rfl (.tmp 70) (.tmp 72) 23 rfl W.heap.size i0 Try.underlying23 hi hz0 hz1 hz2 _ _ rfl ho.out _ rfl hxl hsz ?_))
        intro v' w' h1 h2
        rw [← HNX.out] at h1
        have HB' : Hid (Below W.heap.size W w') := hbl.out.trans h2.out
        clear h2
        go_wp2_with fail
        exact ⟨⟨j + 1, by omega, by go_num, h1, HB'⟩, by (simp [intOf]) <;> omega⟩
    · have ej : j = N := by omega
      subst ej
      have ho' := ho.out
      rw [List.take_of_length_le (by rw [HXL.out]; exact Nat.le_refl _)] at ho'
      obtain ⟨xa, xc, rfl, hnx, -, -⟩ := ho'.ns
      have HNX : Hid (Ns wr xa xc X) := hnx
      have hx64 : X.length ≤ 64 := by rw [HXL.out]; exact hN64
      have hxn : g + 1 ≤ X.length := by rw [HXL.out]; omega
      have hs0 : W.heap.size ≤ wr.heap.size := hbl.out.size
      obtain ⟨L, hL⟩ : ∃ L, L = residZ X (g + 1) := ⟨_, rfl⟩
      obtain ⟨ws, hws⟩ : ∃ ws, ws = X.take (g + 1) := ⟨_, rfl⟩
      have HR : Hid ((L, 0) = resOut X ((g : Int) + 1)) := by show _ = _; rw [hL]; exact resOut_ok X (g + 1) (by omega) hxn hx64 HXS.out
      have HWL : Hid (ws.length = g + 1) := by show _ = _; rw [hws]; simp; omega
      have hws4 : ws.length ≤ 4 := by rw [HWL.out]; omega
      have HT : Hid ((X, 0) = restOut ws L) := by show _ = _; rw [hL, hws]; exact restOut_resid X (g + 1) (by omega) hxn hx64 HXS.out
      have HLL : Hid (L.length = j - (g + 1)) := by show _ = _; rw [hL]; simp [HXL.out]
      have hL64 : L.length ≤ 64 := by have := HLL.out; omega
      have HL0 : Hid (∀ x ∈ L, x = 0) := by rw [hL, HX.out]; exact powRow_left g hg3 a b c d j
      have HLI : Hid (∀ x ∈ L, I64 x) := fun x hx => by rw [HL0.out x hx]; unfold I64; omega
      have hsl := slice_ints xa X.length xc (g + 1) (by have := HNX.out.le; omega)
      have hslw : ∀ w : World, (Instr.sliceAt 23 (.slice xa X.length xc) none (some (.int .i64 ((g : Int) + 1))) none).run Try.prog w = .ok (.slice xa ws.length xc) w := by rw [HWL.out]; exact hsl
      have HWA : Hid (Ns wr xa xc ws) := ⟨by rw [hws]; exact HNX.out.at_.take (g + 1), by have := HNX.out.le; rw [HWL.out]; omega, HNX.out.nil⟩
      have hlt : ((L.length : Int) != (j : Int) - (g : Int) - 1) = false := by have := HLL.out; simp; omega
      clear hL hws hsl ho ho' hnx HXG HX
      go_wp2_with fail
      refine (fresid_any wr xa xc X _ HNX.out (by omega) _ HR.out).mono ?_
      rintro e w3 hg
      obtain ⟨a3, c3, rfl, -, hn3, hb3'⟩ := hg.ok
      have HB3 : Hid (Below W.heap.size W w3) := hbl.out.trans (hb3'.mono hs0)
      have HN3 : Hid (Ns w3 a3 c3 L) := hn3
      have HX3 : Hid (Ns w3 xa xc X) := HNX.out.mono hb3'
      have HW3 : Hid (Ns w3 xa xc ws) := HWA.out.mono hb3'
      have hs3 : W.heap.size ≤ w3.heap.size := HB3.out.size
      clear hg hb3' hn3 HNX HWA hbl HR
      go_wp2_with fail
      go_loopw [94] (fun i wr => ∃ k : Nat, k ≤ L.length ∧ i = .int .i64 k ∧ w3 = wr) (fun i _ => L.length - (intOf i).toNat)
      case atStart => exact ⟨0, Nat.zero_le _, rfl, rfl⟩
      case round =>
        obtain ⟨k, hk, rfl, rfl⟩ := hrel
        by_cases hkn : k < L.length
        · obtain ⟨x, hx⟩ : ∃ x, L[k]? = some x := ⟨L[k], by simp [hkn]⟩
          obtain ⟨b1, o1, rfl, e1⟩ := HN3.out.at_ k x hx
          have hx0 := HL0.out x (List.mem_of_getElem? hx)
          subst hx0
          clear hx
          go_wp2_with fail
          exact ⟨⟨k + 1, by omega, by go_num, by trivial⟩, by (simp [intOf]) <;> omega⟩
        · go_wp2_with fail
          refine (frest_any w3 xa a3 xc c3 ws L HW3.out HN3.out.at_ (by omega) (by omega) HLI.out _ HT.out).mono ?_
          rintro e w4 hg
          obtain ⟨a4, c4, rfl, -, hn4, hb4⟩ := hg.ok
          have HB4 : Hid (Below W.heap.size W w4) := HB3.out.trans (hb4.mono hs3)
          have HN4 : Hid (IntsAt w4 a4 X) := hn4.at_
          have HX4 : Hid (IntsAt w4 xa X) := HX3.out.at_.mono hb4
          have hs4 : W.heap.size ≤ w4.heap.size := HB4.out.size
          clear hg hb4 hn4 HN3 HX3 HW3 HB3 HT hslw
          go_wp2_with fail
          refine (sameInt_any w4 a4 xa c4 xc X HN4.out HX4.out (by omega)).mono ?_
          rintro e w5 ⟨rfl, n5, rfl⟩
          go_wp2_with fail
          refine (wakes5_any _).mono ?_
          rintro e w6 ⟨rfl, hb6⟩
          have HB6 : Hid (Below W.heap.size W w6) := (below_drewN HB4.out n5).trans (hb6.mono hs4)
          clear hb6
          go_wp2
          go_ret
          exact ⟨rfl, HB6.out⟩

end Go.Proofs.Ytepnjglhchbknaa
