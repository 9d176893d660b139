/- The texts MpP2, MpP3, MpP4, SgMath, IntsC, one behind the other. -/
import Derived.Test.YthfeecgpgempdaaDoorPart03
import Derived.Test.YthfeecgpgempdaaDoorPart02

/- The program's map: Set, Count. -/
namespace Go.Proofs.YthfeecgpgempdaaDoor
set_option linter.unusedVariables false
set_option linter.unusedSimpArgs false
open Go.RowKit Dg

/-- Does Set do it? -/
def setsB (m : List Bool) (i : Int) (u : Bool) : Bool := decide (0 ≤ i ∧ i < (m.length : Int)) && (usedZ m i != u)
def setM (m : List Bool) (i : Int) (u : Bool) : List Bool := if setsB m i u then m.set i.toNat u else m
theorem length_setM (m : List Bool) (i : Int) (u : Bool) : (setM m i u).length = m.length := by
  unfold setM
  split
  · rw [List.length_set]
  · rfl
theorem bits_xor_u64_nat (a b : Nat) (ha : a < 18446744073709551616) (hb : b < 18446744073709551616) :
    bits .xor .u64 (a : Int) (b : Int) = ((a ^^^ b : Nat) : Int) := by
  have hx : a ^^^ b < 2 ^ 64 := Nat.xor_lt_two_pow (by omega) (by omega)
  have h1 : (BitVec.ofInt 64 (a : Int)).toNat = a := by
    rw [BitVec.ofInt_natCast, BitVec.toNat_ofNat]; exact Nat.mod_eq_of_lt (by omega)
  have h2 : (BitVec.ofInt 64 (b : Int)).toNat = b := by
    rw [BitVec.ofInt_natCast, BitVec.toNat_ofNat]; exact Nat.mod_eq_of_lt (by omega)
  show IntKind.u64.wrap ((BitVec.ofInt 64 (a : Int) ^^^ BitVec.ofInt 64 (b : Int)).toNat : Int) = _
  rw [BitVec.toNat_xor, h1, h2, IntKind.wrap_u64]
  omega
theorem pow_int (r : Nat) (hr : r < 64) : IntKind.u64.wrap (2 ^ r) = ((2 ^ r : Nat) : Int) ∧ IntKind.u64.wrap (1 * 2 ^ r) = ((2 ^ r : Nat) : Int) := by
  have h2 : 2 ^ r < 2 ^ 64 := Nat.pow_lt_pow_right (by decide) hr
  rw [Int.one_mul, ← pow_cast]
  generalize 2 ^ r = P at h2
  have : IntKind.u64.wrap (P : Int) = (P : Int) := by rw [IntKind.wrap_u64]; omega
  exact ⟨this, this⟩
/-- The box is as it was, a word is turned. -/
theorem MpIs.set {w : World} {b g c : Nat} {m : List Bool} (h : MpIs w b g c m) {i : Nat} {u : Bool} (hi : m[i]? = some (!u)) {x : Nat} (hx : (wsOf m)[i / 64]? = some x) :
    MpIs (w.setCell ⟨g, i / 64, none⟩ (.int .u64 ((x ^^^ 2 ^ (i % 64) : Nat) : Int))) b g c (m.set i u) := by
  have hk : Kept (fun k => k = g) w (w.setCell ⟨g, i / 64, none⟩ (.int .u64 ((x ^^^ 2 ^ (i % 64) : Nat) : Int))) := Kept.setCell _ _ _ rfl
  have ht := ((wsOf_is m).turn hi hx).of
  rw [Bool.not_not] at ht
  have hlen : (wsOf (m.set i u)).length = (wsOf m).length := by rw [← ht, List.length_set]
  refine ⟨?_, ?_, h.tab.kept hk (fun e => h.ne.2.2 e.symm), by rw [List.length_set]; exact h.pos, by rw [List.length_set]; exact h.le, h.ne⟩
  · rw [hk.block b h.lt.1 h.ne.1, hlen, List.length_set]
    exact h.box
  · rw [hlen, ← ht]
    exact ws_set h.ws _ _ (List.getElem?_eq_some_iff.1 hx).1
set_option maxRecDepth 100000 in
set_option maxHeartbeats 4000000 in
theorem mset_is (w : World) (b g c : Nat) (m : List Bool) (h : MpIs w b g c m) (i : Int) (hi : I64 i) (u : Bool) (R : Bool) (hR : R = setsB m i u) (m2 : List Bool) (hm2 : m2 = setM m i u) :
    Calls Tryd.prog 34 #[.pointer (some ⟨b, 0, none⟩), .int .i64 i, .bool u] w fun e w' => e = .returned (.bool R) ∧ MpIs w' b g c m2 ∧ Kept (fun k => k = g) w w' := by
  have HH := hid_of (mhas_is w b g c m h i hi _ rfl)
  have HU := hid_of (mused_is w b g c m h i hi _ rfl)
  obtain ⟨-, c1⟩ := h.cell
  obtain ⟨hi1, hi2⟩ := hi
  have H0 := hid_of h
  by_cases hin : 0 ≤ i ∧ i < (m.length : Int)
  · obtain ⟨k, rfl⟩ : ∃ k : Nat, i = (k : Int) := ⟨i.toNat, by omega⟩
    have hlen := h.len
    rw [decide_eq_true hin] at HH
    rw [usedZ_nat] at HU
    obtain ⟨y, hy⟩ : ∃ y, m[k]? = some y := ⟨_, List.getElem?_eq_getElem (by omega)⟩
    have hdy : dgt m k = y := by unfold dgt; rw [hy]; rfl
    rw [hdy] at HU
    have hs : setsB m (k : Int) u = (y != u) := by unfold setsB; rw [decide_eq_true hin, usedZ_nat, hdy, Bool.true_and]
    unfold setM at hm2
    rw [hs, Int.toNat_natCast] at hm2
    rw [hs] at hR
    by_cases hyu : y = u
    · subst hyu
      obtain rfl : R = false := by rw [hR]; simp
      obtain rfl : m2 = m := by rw [hm2]; simp
      have hyy : (y == y) = true := by simp
      clear hR hm2 hs hin hlen hy hdy h
      go_enter Tryd.func34, Tryd.ntmps34
      go_wp2_with (first
        | (go_at_call 51; refine HH.out.mono ?_; rintro e w1 ⟨rfl, rfl⟩)
        | (go_at_call 30; refine HU.out.mono ?_; rintro e w1 ⟨rfl, rfl⟩))
      go_ret
      exact ⟨rfl, H0.out, Kept.refl _ _⟩
    · obtain rfl : y = !u := by cases y <;> cases u <;> simp_all
      obtain rfl : R = true := by rw [hR]; cases u <;> rfl
      have hm2' : m2 = m.set k u := by rw [hm2]; cases u <;> rfl
      obtain ⟨q, hq⟩ : ∃ q, q = k / 64 := ⟨_, rfl⟩
      obtain ⟨r, hr⟩ : ∃ r, r = k % 64 := ⟨_, rfl⟩
      obtain ⟨L, hL⟩ : ∃ L, L = (wsOf m).length := ⟨_, rfl⟩
      have hqL : q < L := by omega
      obtain ⟨x, hxw, hx, hc, hfz, -⟩ := h.word (k := q) (by omega)
      have hr64 : r < 64 := by omega
      obtain ⟨P, hP⟩ : ∃ P : Nat, P = 2 ^ r := ⟨_, rfl⟩
      obtain ⟨hp1, hp2⟩ := pow_int r hr64
      rw [← hP] at hp1 hp2
      have hP64 : P < 18446744073709551616 := by rw [hP]; exact Nat.pow_lt_pow_right (by decide) hr64
      obtain ⟨z, hz⟩ : ∃ z, z = x ^^^ P := ⟨_, rfl⟩
      have hxor := bits_xor_u64_nat x P hx hP64
      rw [← hz] at hxor
      have HE : Hid (MpIs (w.drew.setCell ⟨g, q, none⟩ (.int .u64 (z : Int))) b g c m2) := by
        have hd : MpIs w.drew b g c m := h.kept (X := fun _ => False) (Kept.refl _ _).drew (fun h => h) (fun h => h) (fun h => h)
        have := hd.set hy (x := x) (by rw [← hq]; exact hxw)
        rw [← hq, ← hr, ← hP, ← hz, ← hm2'] at this
        exact this
      have HK : Hid (Kept (fun k => k = g) w (w.drew.setCell ⟨g, q, none⟩ (.int .u64 (z : Int)))) := (Kept.refl _ _).drew.trans (Kept.setCell _ _ _ rfl)
      have hqI : (k : Int) / 64 = (q : Int) := by omega
      have hrI : (k : Int) % 64 = (r : Int) := by omega
      have hne : ((!u) == u) = false := by cases u <;> rfl
      rw [← hL] at c1
      clear hR hm2 hs hin hlen hy hdy h hm2' hq hr hL hxw hP hz hyu
      go_enter Tryd.func34, Tryd.ntmps34
      go_wp2_with (first
        | (go_at_call 51; refine HH.out.mono ?_; rintro e w1 ⟨rfl, rfl⟩)
        | (go_at_call 30; refine HU.out.mono ?_; rintro e w1 ⟨rfl, rfl⟩))
      go_region
      all_goals
        go_wp2_with fail
        go_ret
        exact ⟨rfl, HE.out, HK.out⟩
  · have hs : setsB m i u = false := by unfold setsB; rw [decide_eq_false hin]; rfl
    unfold setM at hm2
    rw [hs] at hm2 hR
    change m2 = m at hm2
    subst hm2
    subst hR
    rw [decide_eq_false hin] at HH
    clear hs hin h HU
    go_enter Tryd.func34, Tryd.ntmps34
    go_wp2_with fail
    refine HH.out.mono ?_
    rintro e w1 ⟨rfl, rfl⟩
    go_wp2_with fail
    go_ret
    exact ⟨rfl, H0.out, Kept.refl _ _⟩

set_option maxRecDepth 100000 in
set_option maxHeartbeats 4000000 in
theorem mcount_is (w : World) (b g c : Nat) (m : List Bool) (h : MpIs w b g c m) (x : Nat) (hx : x = usedN m m.length) :
    Calls Tryd.prog 33 #[.pointer (some ⟨b, 0, none⟩)] w fun e w' => e = .returned (.int .i64 (x : Int)) ∧ ∃ k, w' = w.drewN k := by
  obtain ⟨c0, c1⟩ := h.cell
  have hlen := h.len
  have hle := h.le
  have hall := popL_all (wsOf_is m)
  rw [← hx] at hall
  obtain ⟨l, hl⟩ : ∃ l, l = wsOf m := ⟨_, rfl⟩
  have HW : Hid (∀ k, k < l.length → ∃ x, l[k]? = some x ∧ x < 18446744073709551616 ∧ w.cell? ⟨g, k, none⟩ = some (.int .u64 (x : Int))) := fun k hk => by
    obtain ⟨x, e1, e2, e3, -⟩ := h.word (k := k) (by rw [← hl]; exact hk)
    exact ⟨x, by rw [hl]; exact e1, e2, e3⟩
  rw [← hl] at c1 hall hlen
  obtain ⟨L, hL⟩ : ∃ L, L = l.length := ⟨_, rfl⟩
  rw [← hL] at c1 hall hlen
  obtain ⟨n, hn⟩ : ∃ n, n = m.length := ⟨_, rfl⟩
  rw [← hn] at c0 hall hlen hle
  have HL := hid_of hL
  have HA := hid_of hall
  obtain ⟨-, hl1, hl2, hl3⟩ := hlen
  clear h hx hl hL hn hall
  go_enter Tryd.func33, Tryd.ntmps33
  go_wp2_with fail
  go_quiet (fail)
  go_wp2_with fail
  go_loopw [3, 5, 22] (fun v _ i wr => ∃ (k : Nat) (d : Int), k ≤ L ∧ v = .int .i64 d ∧ i = .int .i64 (k : Int) ∧ Hid (d = (n : Int) - 64 * (L : Int) + (popL l k : Nat)) ∧ -4096 ≤ d ∧ d ≤ 8192 ∧ wr = w.drewN nq) (fun _ _ i _ => L - (intOf i).toNat)
  case atStart => exact ⟨0, _, Nat.zero_le _, rfl, rfl, by show _ = (n : Int) - 64 * (L : Int) + ((0 : Nat) : Int); omega, by omega, by omega, rfl⟩
  case round =>
    obtain ⟨k, d, hk, rfl, rfl, hd, hd1, hd2, rfl⟩ := hrel
    by_cases hkL : k < L
    · obtain ⟨y, hy, hy2, hy3⟩ := HW.out k (by rw [← HL.out]; exact hkL)
      obtain ⟨p, hp⟩ : ∃ p, p = popN y := ⟨_, rfl⟩
      have hp64 : p ≤ 64 := by rw [hp]; exact popN_le y
      have HP := hid_of (ones_any (w.drewN nq) y hy2 p hp)
      have HNX : Hid (d + (p : Int) = (n : Int) - 64 * (L : Int) + (popL l (k + 1) : Nat)) := by
        show _ = _
        have e : popL l (k + 1) = popL l k + p := by
          show popL l k + popN (l.getD k 0) = _
          rw [List.getD_eq_getElem?_getD, hy, hp]; rfl
        have := hd.out
        rw [e]; omega
      have hdb : d + (p : Int) ≤ 8192 := by
        have h1 := HNX.out
        have h2 : popL l (k + 1) ≤ 64 * (k + 1) := by
          clear h1 HNX hd HP
          generalize k + 1 = j
          induction j with
          | zero => exact Nat.le_refl _
          | succ j ih =>
            show popL l j + popN (l.getD j 0) ≤ _
            have := popN_le (l.getD j 0)
            omega
        omega
      clear hy hp hd
      go_wp2_with (go_at_call 52; refine HP.out.mono ?_; rintro e w1 ⟨rfl, rfl⟩)
      refine ⟨?_, by (simp [intOf]) <;> omega⟩
      first
        | exact ⟨k + 1, d + (p : Int), by omega, by go_num, by go_num, HNX, by omega, hdb, by first | rfl | trivial⟩
        | ((repeat apply Exists.intro); exact ⟨k + 1, d + (p : Int), by omega, by go_num, by go_num, HNX, by omega, hdb, by first | rfl | trivial⟩)
    · obtain rfl : k = L := by omega
      obtain rfl : d = (x : Int) := by have h1 := hd.out; have h2 := HA.out; omega
      clear hd
      go_wp2_with fail
      go_ret
      exact ⟨rfl, nq, rfl⟩

end Go.Proofs.YthfeecgpgempdaaDoor

/- The program's map: seek. -/
namespace Go.Proofs.YthfeecgpgempdaaDoor
set_option linter.unusedVariables false
set_option linter.unusedSimpArgs false
open Go.RowKit Dg

/-- A word of which the digits asked for are ones, from r on. -/
def askW (x r : Nat) (u : Bool) : Nat := (if u then x else 18446744073709551615 - x) &&& (18446744073709551616 - 2 ^ r)
theorem not64_bit (x j : Nat) (hx : x < 18446744073709551616) (hj : j < 64) : (18446744073709551615 - x).testBit j = !(x.testBit j) := by
  have e : 18446744073709551615 - x = 2 ^ 64 - (x + 1) := by omega
  rw [e, Nat.testBit_two_pow_sub_succ (by omega)]
  simp [hj]
theorem askW_bit (x r : Nat) (u : Bool) (hx : x < 18446744073709551616) (hr : r < 64) (j : Nat) (hj : j < 64) : (askW x r u).testBit j = (decide (r ≤ j) && (x.testBit j == u)) := by
  unfold askW
  rw [Nat.testBit_and, full_bit r j hr hj]
  cases u
  · rw [if_neg (by decide), not64_bit x j hx hj]
    cases x.testBit j <;> cases decide (r ≤ j) <;> rfl
  · rw [if_pos rfl]
    cases x.testBit j <;> cases decide (r ≤ j) <;> rfl
theorem askW_lt (x r : Nat) (u : Bool) (hx : x < 18446744073709551616) : askW x r u < 18446744073709551616 := by
  unfold askW
  refine Nat.and_lt_two_pow (n := 64) _ ?_
  have : 1 ≤ 2 ^ r := Nat.one_le_two_pow
  omega
theorem askW_zero (x r : Nat) (u : Bool) (hx : x < 18446744073709551616) (hr : r < 64) (h : askW x r u = 0) : ∀ j, r ≤ j → j < 64 → x.testBit j ≠ u := by
  intro j h1 h2 e
  have h3 := askW_bit x r u hx hr j h2
  rw [h, Nat.zero_testBit, decide_eq_true h1, e] at h3
  simp at h3
/-- The words are one behind the other: the seek goes on. -/
theorem seek_hit {m : List Bool} {L f k x r : Nat} {u : Bool} (hb : ∀ j, j < 64 → x.testBit j = dgt m (64 * k + j)) (hx : x < 18446744073709551616) (hkL : k < L) (hr : r < 64) (hrf : r = if k = f / 64 then f % 64 else 0) (hkf : f / 64 ≤ k)
    (hlo : ∀ j, f ≤ j → j < 64 * k → dgt m j ≠ u) (h0 : askW x r u ≠ 0) : IsSeek m (64 * L) f u (64 * k + Lib.ctz 64 (askW x r u)) := by
  obtain ⟨h1, h2, h3⟩ := ctz_spec h0 (askW_lt x r u hx)
  generalize Lib.ctz 64 (askW x r u) = z at h1 h2 h3
  have hz := askW_bit x r u hx hr z h1
  rw [h2] at hz
  have hzr : r ≤ z := by
    by_cases e : r ≤ z
    · exact e
    · rw [decide_eq_false e] at hz; cases hz
  have hzu : x.testBit z = u := by
    rw [decide_eq_true hzr, Bool.true_and] at hz
    exact eq_of_beq hz.symm
  refine ⟨.inl ⟨?_, by omega, by rw [← hb z h1]; exact hzu⟩, fun j g1 g2 _ => ?_⟩
  · split at hrf <;> omega
  · by_cases e : j < 64 * k
    · exact hlo j g1 e
    · have hj : 64 * k + (j - 64 * k) = j := by omega
      have g3 := h3 (j - 64 * k) (by omega)
      rw [askW_bit x r u hx hr _ (by omega), hb _ (by omega), hj] at g3
      intro e2
      rw [e2] at g3
      have : r ≤ j - 64 * k := by split at hrf <;> omega
      rw [decide_eq_true this] at g3
      simp at g3
theorem seek_next {m : List Bool} {f k x r : Nat} {u : Bool} (hb : ∀ j, j < 64 → x.testBit j = dgt m (64 * k + j)) (hx : x < 18446744073709551616) (hr : r < 64) (hrf : r = if k = f / 64 then f % 64 else 0) (hkf : f / 64 ≤ k)
    (hlo : ∀ j, f ≤ j → j < 64 * k → dgt m j ≠ u) (h0 : askW x r u = 0) : ∀ j, f ≤ j → j < 64 * (k + 1) → dgt m j ≠ u := by
  intro j g1 g2
  by_cases e : j < 64 * k
  · exact hlo j g1 e
  · have hj : 64 * k + (j - 64 * k) = j := by omega
    have g3 := askW_zero x r u hx hr h0 (j - 64 * k) (by split at hrf <;> omega) (by omega)
    rw [hb _ (by omega), hj] at g3
    exact g3
theorem ask_int (x r : Nat) (hx : x < 18446744073709551616) (hr : r < 64) : bits .and .u64 (x : Int) (IntKind.u64.wrap (18446744073709551615 * 2 ^ r)) = (((x &&& (18446744073709551616 - 2 ^ r)) : Nat) : Int) := by
  rw [shl_int r hr]
  have : 1 ≤ 2 ^ r := Nat.one_le_two_pow
  exact bits_and_u64_nat x _ hx (by omega)
theorem ask_all (x : Nat) (hx : x < 18446744073709551616) : x &&& (18446744073709551616 - 2 ^ 0) = x := by
  have : 18446744073709551616 - 2 ^ 0 = 2 ^ 64 - 1 := by decide
  rw [this, Nat.and_two_pow_sub_one_eq_mod]
  exact Nat.mod_eq_of_lt hx
theorem not_int (x : Nat) (hx : x < 18446744073709551616) : bits BinOp.xor IntKind.u64 IntKind.u64.max (x : Int) = ((18446744073709551615 - x : Nat) : Int) := by
  have e : IntKind.u64.max = ((18446744073709551615 : Nat) : Int) := by decide
  rw [e, bits_xor_u64_nat _ _ (by decide) hx]
  congr 1
  refine eq_of_bits64 (Nat.xor_lt_two_pow (n := 64) (by decide) hx) (by omega) fun j hj => ?_
  rw [not64_bit x j hx hj, Nat.testBit_xor, show (18446744073709551615 : Nat) = 2 ^ 64 - 1 from by decide, Nat.testBit_two_pow_sub_one]
  simp [hj]
set_option maxRecDepth 100000 in
set_option maxHeartbeats 4000000 in
theorem mseek_is (w : World) (b g c : Nat) (m : List Bool) (h : MpIs w b g c m) (f : Nat) (hf : (f : Int) ≤ 9223372036854775807) (u : Bool) (N : Nat) (hN : N = 64 * (wsOf m).length) :
    Calls Tryd.prog 56 #[.pointer (some ⟨b, 0, none⟩), .int .i64 (f : Int), .bool u] w fun e w' => ∃ r : Nat, e = .returned (.int .i64 (r : Int)) ∧ IsSeek m N f u r ∧ w = w' := by
  obtain ⟨-, c1⟩ := h.cell
  have hlen := h.len
  have hle := h.le
  have HT := hid_of h.tab
  have HW : Hid (∀ k, k < (wsOf m).length → ∃ x : Nat, x < 18446744073709551616 ∧ w.cell? ⟨g, k, none⟩ = some (.int .u64 (x : Int)) ∧ ∀ j, j < 64 → x.testBit j = dgt m (64 * k + j)) := fun k hk => by
    obtain ⟨x, e1, e2, e3, -, e5⟩ := h.word hk
    exact ⟨x, e2, e3, e5⟩
  obtain ⟨L, hL⟩ : ∃ L, L = (wsOf m).length := ⟨_, rfl⟩
  rw [← hL] at c1 HW hlen hN
  obtain ⟨-, hl1, hl2, hl3⟩ := hlen
  obtain ⟨F, hF⟩ : ∃ F, F = f / 64 := ⟨_, rfl⟩
  obtain ⟨r, hr⟩ : ∃ r, r = f % 64 := ⟨_, rfl⟩
  have hFI : (f : Int) / 64 = (F : Int) := by omega
  have hrI : (f : Int) % 64 = (r : Int) := by omega
  have hr64 : r < 64 := by omega
  have HF := hid_of hF
  have HR := hid_of hr
  have HN := hid_of hN
  have hFb : F ≤ 144115188075855872 := by omega
  clear h hL hF hr hN
  go_enter Tryd.func56, Tryd.ntmps56
  go_wp2_with fail
  go_loopw [8, 9] (fun v _ wr => ∃ k : Nat, F ≤ k ∧ v = .int .i64 (k : Int) ∧ k ≤ 144115188075855872 ∧ Hid (∀ j, f ≤ j → j < 64 * k → dgt m j ≠ u) ∧ wr = w) (fun v _ _ => L - (intOf v).toNat)
  case atStart => exact ⟨F, Nat.le_refl _, rfl, hFb, fun j h1 h2 => by have := HF.out; omega, rfl⟩
  case round =>
    obtain ⟨k, hFk, rfl, hkb, hlo, rfl⟩ := hrel
    by_cases hkL : k < L
    · obtain ⟨x, hx, hc, hb⟩ := HW.out k hkL
      obtain ⟨rr, hrr⟩ : ∃ rr, rr = if k = f / 64 then f % 64 else 0 := ⟨_, rfl⟩
      have hrr64 : rr < 64 := by rw [hrr]; split <;> omega
      obtain ⟨y, hy⟩ : ∃ y, y = askW x rr u := ⟨_, rfl⟩
      have hFk2 : f / 64 ≤ k := by rw [← HF.out]; exact hFk
      have hfin : y = 0 → Hid (∀ j, f ≤ j → j < 64 * (k + 1) → dgt m j ≠ u) := fun e => seek_next hb hx hrr64 hrr hFk2 hlo.out (by rw [← hy]; exact e)
      have hhit : y ≠ 0 → Hid (IsSeek m N f u (64 * k + Lib.ctz 64 y)) := fun e => by
        show IsSeek _ _ _ _ _
        rw [HN.out, hy]
        exact seek_hit hb hx hkL hrr64 hrr hFk2 hlo.out (by rw [← hy]; exact e)
      have hy64 : y < 18446744073709551616 := by rw [hy]; exact askW_lt x rr u hx
      obtain ⟨z, hz⟩ : ∃ z, z = if u then x else 18446744073709551615 - x := ⟨_, rfl⟩
      have hz64 : z < 18446744073709551616 := by rw [hz]; split <;> omega
      have hyz : y = z &&& (18446744073709551616 - 2 ^ rr) := by rw [hy, hz]; rfl
      have hnot : u = false → bits BinOp.xor IntKind.u64 IntKind.u64.max (x : Int) = (z : Int) ∧ bits BinOp.xor IntKind.u64 (if IntKind.u64.signed = true then -1 else IntKind.u64.max) (x : Int) = (z : Int) := fun e => by
        rw [hz, if_neg (by rw [e]; decide), if_neg (by decide)]; exact ⟨not_int x hx, not_int x hx⟩
      have hzx : u = true → z = x := fun e => by rw [hz, if_pos e]
      have hway : (((k : Int) == (F : Int)) = true ∧ bits BinOp.and IntKind.u64 (z : Int) (IntKind.u64.wrap (18446744073709551615 * 2 ^ r)) = (y : Int)) ∨ (((k : Int) == (F : Int)) = false ∧ z = y) := by
        by_cases e : k = F
        · have e2 : rr = r := by rw [hrr, if_pos (by rw [← HF.out]; exact e), HR.out]
          exact .inl ⟨beq_iff_eq.2 (by omega), by rw [hyz, e2]; exact ask_int z r hz64 hr64⟩
        · have e2 : rr = 0 := by rw [hrr, if_neg (by rw [← HF.out]; exact e)]
          exact .inr ⟨beq_eq_false_iff_ne.2 (by omega), by rw [hyz, e2]; exact (ask_all z hz64).symm⟩
      clear hrr hrr64 hy hFk2 hz hz64 hyz hb
      obtain ⟨t, ht⟩ : ∃ t, t = Lib.ctz 64 y := ⟨_, rfl⟩
      by_cases hy0 : y = 0
      · have HN1 := hfin hy0
        have hyb : ((y : Int) != 0) = false := by rw [hy0]; rfl
        have hyb2 : ((y : Int) == 0) = true := by rw [hy0]; rfl
        clear hfin hhit hy0 ht
        rcases hway with ⟨hkb2, hand⟩ | ⟨hkb2, rfl⟩
        all_goals
          cases u
          · obtain ⟨hnx, hnx2⟩ := hnot rfl
            clear hnot hzx
            go_wp2_with fail
            refine ⟨?_, by (simp [intOf]) <;> omega⟩
            first
              | exact ⟨k + 1, by omega, by go_num, by omega, HN1, by first | rfl | trivial⟩
              | ((repeat apply Exists.intro); exact ⟨k + 1, by omega, by go_num, by omega, HN1, by first | rfl | trivial⟩)
          · have hnx := hzx rfl
            subst hnx
            clear hnot hzx
            go_wp2_with fail
            refine ⟨?_, by (simp [intOf]) <;> omega⟩
            first
              | exact ⟨k + 1, by omega, by go_num, by omega, HN1, by first | rfl | trivial⟩
              | ((repeat apply Exists.intro); exact ⟨k + 1, by omega, by go_num, by omega, HN1, by first | rfl | trivial⟩)
      · have HI := hhit hy0
        have hyb : ((y : Int) != 0) = true := by simp; omega
        have hyb2 : ((y : Int) == 0) = false := by simp; omega
        have htl : t < 64 := by rw [ht]; exact (ctz_spec hy0 hy64).1
        have HC := hid_of (tz_any wr HT.out y hy0 hy64 t ht)
        rw [← ht] at HI
        obtain ⟨R, hR⟩ : ∃ R, R = 64 * k + t := ⟨_, rfl⟩
        rw [← hR] at HI
        have hsum : (k : Int) * 64 + (t : Int) = (R : Int) := by omega
        have hRb : R ≤ 10000 := by omega
        clear hfin hhit hy0 ht hR
        rcases hway with ⟨hkb2, hand⟩ | ⟨hkb2, rfl⟩
        all_goals
          cases u
          · obtain ⟨hnx, hnx2⟩ := hnot rfl
            clear hnot hzx
            go_wp2_with (go_at_call 57; refine HC.out.mono ?_; rintro e w1 ⟨rfl, rfl⟩)
            go_ret
            exact ⟨R, rfl, HI.out, rfl⟩
          · have hnx := hzx rfl
            subst hnx
            clear hnot hzx
            go_wp2_with (go_at_call 57; refine HC.out.mono ?_; rintro e w1 ⟨rfl, rfl⟩)
            go_ret
            exact ⟨R, rfl, HI.out, rfl⟩
    · have HI : Hid (IsSeek m N f u N) := ⟨.inr rfl, fun j h1 h2 h3 => hlo.out j h1 (by have := HN.out; omega)⟩
      have hkLb : decide ((k : Int) < (L : Int)) = false := decide_eq_false (by omega)
      have hNI : (64 : Int) * (L : Int) = (N : Int) := by have := HN.out; omega
      go_wp2_with fail
      go_ret
      exact ⟨N, rfl, HI.out, rfl⟩

end Go.Proofs.YthfeecgpgempdaaDoor

/- The program's map: First, Take, Run. -/
namespace Go.Proofs.YthfeecgpgempdaaDoor
set_option linter.unusedVariables false
set_option linter.unusedSimpArgs false
open Go.RowKit Dg

set_option maxRecDepth 100000 in
set_option maxHeartbeats 4000000 in
theorem mfirst_is (w : World) (b g c : Nat) (m : List Bool) (h : MpIs w b g c m) (f : Int) (hf : I64 f) (R : Int) (hR : IsFirst m f R) :
    Calls Tryd.prog 49 #[.pointer (some ⟨b, 0, none⟩), .int .i64 f] w fun e w' => e = .returned (.int .i64 R) ∧ w = w' := by
  obtain ⟨c0, -⟩ := h.cell
  obtain ⟨hf1, hf2⟩ := hf
  obtain ⟨f0, hf0⟩ : ∃ f0 : Nat, (f0 : Int) = max f 0 := ⟨f.toNat, by omega⟩
  have hf9 : (f0 : Int) ≤ 9223372036854775807 := by omega
  have HS := hid_of (mseek_is w b g c m h f0 hf9 false _ rfl)
  obtain ⟨N, hN⟩ : ∃ N, N = 64 * (wsOf m).length := ⟨_, rfl⟩
  rw [← hN] at HS
  have hNl : m.length ≤ N := by have := h.len; omega
  have hN10 : N ≤ 10000 := by have := h.len; omega
  have HK : Hid (∀ r : Nat, IsSeek m N f0 false r → R = if r < m.length then (r : Int) else -1) := fun r hr => by
    have h1 := hr.first hNl
    refine hR.one ?_
    rcases h1 with ⟨k, e1, e2, e3, e4⟩ | ⟨e1, e2⟩
    · exact .inl ⟨k, e1, by omega, e3, fun j g1 g2 => e4 j (by omega) g2⟩
    · exact .inr ⟨e1, fun j g1 => e2 j (by omega)⟩
  obtain ⟨n, hn⟩ : ∃ n, n = m.length := ⟨_, rfl⟩
  rw [← hn] at c0 HK
  have hle : n ≤ 4096 := by rw [hn]; exact h.le
  have hcase : (f = (f0 : Int)) ∨ (f < 0 ∧ f0 = 0) := by omega
  have HB : Hid (∀ r : Nat, IsSeek m N f0 false r → r ≤ N) := fun r hr => by rcases hr.1 with h1 | h1 <;> omega
  clear hf0 hR h hn hN hNl
  rcases hcase with rfl | ⟨hneg, hf0e⟩
  · clear hf1
    go_enter Tryd.func49, Tryd.ntmps49
    go_wp2_with fail
    refine HS.out.mono ?_
    rintro e w1 ⟨r, rfl, hr, rfl⟩
    have HRr := HK.out r hr
    have hrb := HB.out r hr
    clear hr
    by_cases hrn : r < n
    · rw [if_pos hrn] at HRr
      subst HRr
      go_wp2_with fail
      go_ret
      exact ⟨rfl, rfl⟩
    · rw [if_neg hrn] at HRr
      have hd : decide ((r : Int) < (n : Int)) = false := decide_eq_false (by omega)
      have hd2 : decide (r < n) = false := decide_eq_false hrn
      subst HRr
      go_wp2_with fail
      go_ret
      exact ⟨rfl, rfl⟩
  · subst hf0e
    go_enter Tryd.func49, Tryd.ntmps49
    go_wp2_with fail
    refine HS.out.mono ?_
    rintro e w1 ⟨r, rfl, hr, rfl⟩
    have HRr := HK.out r hr
    have hrb := HB.out r hr
    clear hr
    by_cases hrn : r < n
    · rw [if_pos hrn] at HRr
      subst HRr
      go_wp2_with fail
      go_ret
      exact ⟨rfl, rfl⟩
    · rw [if_neg hrn] at HRr
      have hd : decide ((r : Int) < (n : Int)) = false := decide_eq_false (by omega)
      have hd2 : decide (r < n) = false := decide_eq_false hrn
      subst HRr
      go_wp2_with fail
      go_ret
      exact ⟨rfl, rfl⟩
/-- There is always a first one, or none. -/
theorem first_is (m : List Bool) (f : Int) : ∃ R, IsFirst m f R ∧ -1 ≤ R ∧ R < (m.length : Int) := by
  by_cases h : ∃ k : Nat, f ≤ (k : Int) ∧ m[k]? = some false
  · have hl : ∀ n : Nat, (∃ k : Nat, k < n ∧ f ≤ (k : Int) ∧ m[k]? = some false) → ∃ k : Nat, (f ≤ (k : Int) ∧ m[k]? = some false) ∧ ∀ j : Nat, f ≤ (j : Int) → j < k → m[j]? ≠ some false := by
      intro n
      induction n with
      | zero => rintro ⟨k, hk, -⟩; exact absurd hk (Nat.not_lt_zero _)
      | succ n ih =>
        rintro ⟨k, hk, h1, h2⟩
        by_cases e : ∃ k : Nat, k < n ∧ f ≤ (k : Int) ∧ m[k]? = some false
        · exact ih e
        · have hkn : k = n := by
            by_cases e2 : k < n
            · exact absurd ⟨k, e2, h1, h2⟩ e
            · omega
          exact ⟨k, ⟨h1, h2⟩, fun j g1 g2 g3 => e ⟨j, by omega, g1, g3⟩⟩
    obtain ⟨k, h1, h2⟩ := h
    obtain ⟨q, ⟨e1, e2⟩, e3⟩ := hl (k + 1) ⟨k, by omega, h1, h2⟩
    exact ⟨(q : Int), .inl ⟨q, rfl, e1, e2, e3⟩, by omega, by have := (List.getElem?_eq_some_iff.1 e2).1; omega⟩
  · exact ⟨-1, .inr ⟨rfl, fun j h1 h2 => h ⟨j, h1, h2⟩⟩, by omega, by omega⟩
theorem IsFirst.bounds {m : List Bool} {f r : Int} (h : IsFirst m f r) : -1 ≤ r ∧ r < (m.length : Int) := by
  obtain ⟨R, h1, h2⟩ := first_is m f
  rw [h.one h1]; exact h2
theorem run_is (m : List Bool) (q : Int) (hq : I64 q) : ∃ R, IsRun m q R := by
  by_cases h0 : q < 1
  · exact ⟨-1, .inr ⟨rfl, .inl h0⟩⟩
  · obtain ⟨l, rfl⟩ : ∃ l : Nat, q = (l : Int) := ⟨q.toNat, by omega⟩
    by_cases h : ∃ k, FreeAt m k l
    · have hl : ∀ n : Nat, (∃ k : Nat, k < n ∧ FreeAt m k l) → ∃ k : Nat, FreeAt m k l ∧ ∀ i, i < k → ¬ FreeAt m i l := by
        intro n
        induction n with
        | zero => rintro ⟨k, hk, -⟩; exact absurd hk (Nat.not_lt_zero _)
        | succ n ih =>
          rintro ⟨k, hk, h1⟩
          by_cases e : ∃ k : Nat, k < n ∧ FreeAt m k l
          · exact ih e
          · have hkn : k = n := by
              by_cases e2 : k < n
              · exact absurd ⟨k, e2, h1⟩ e
              · omega
            exact ⟨k, h1, fun j g1 g3 => e ⟨j, by omega, g3⟩⟩
      obtain ⟨k, h1⟩ := h
      obtain ⟨p, e1, e2⟩ := hl (k + 1) ⟨k, by omega, h1⟩
      exact ⟨(p : Int), .inl ⟨p, l, rfl, by omega, rfl, e1, e2⟩⟩
    · exact ⟨-1, .inr ⟨rfl, .inr ⟨l, rfl, fun i hi => h ⟨i, hi⟩⟩⟩⟩
/-- What Take answers, and leaves. -/
theorem take_is {m : List Bool} {r : Int} (h : IsFirst m 0 r) : setM m r true = if 0 ≤ r then m.set r.toNat true else m := by
  rcases h with ⟨k, rfl, h1, h2, h3⟩ | ⟨rfl, h1⟩
  · have hk := (List.getElem?_eq_some_iff.1 h2).1
    have hs : setsB m (k : Int) true = true := by
      unfold setsB
      rw [usedZ_nat, dgt_false.2 h2, decide_eq_true (by omega)]; rfl
    unfold setM
    rw [if_pos hs, if_pos (by omega)]
  · have hs : setsB m (-1) true = false := by unfold setsB; rw [decide_eq_false (by omega)]; rfl
    unfold setM
    rw [hs]; rfl
set_option maxRecDepth 100000 in
set_option maxHeartbeats 4000000 in
theorem mtake_is (w : World) (b g c : Nat) (m : List Bool) (h : MpIs w b g c m) (R : Int) (hR : IsFirst m 0 R) (m2 : List Bool) (hm2 : m2 = if 0 ≤ R then m.set R.toNat true else m) :
    Calls Tryd.prog 27 #[.pointer (some ⟨b, 0, none⟩)] w fun e w' => e = .returned (.int .i64 R) ∧ MpIs w' b g c m2 ∧ Kept (fun k => k = g) w w' := by
  have HF := hid_of (mfirst_is w b g c m h 0 ⟨by decide, by decide⟩ R hR)
  have hb := hR.bounds
  have hle := h.le
  have HS := hid_of (mset_is w b g c m h R ⟨by omega, by omega⟩ true _ rfl m2 (by rw [hm2, take_is hR]))
  clear h hR hm2
  go_enter Tryd.func27, Tryd.ntmps27
  go_wp2_with fail
  refine HF.out.mono ?_
  rintro e w1 ⟨rfl, rfl⟩
  go_wp2_with fail
  refine HS.out.mono ?_
  rintro e w2 ⟨rfl, h2, h3⟩
  have H2 := hid_of h2
  have H3 := hid_of h3
  clear h2 h3
  go_wp2_with fail
  go_ret
  exact ⟨rfl, H2.out, H3.out⟩
/-- How far a run may go on. -/
def runMz (n : Nat) (a : Int) : Nat := if a < 0 then 0 else n + 1 - a.toNat
theorem runMz_lt {n k : Nat} {a : Int} (hk : k < n) (h : a < 0 ∨ (k : Int) < a) : runMz n a < runMz n (k : Int) := by
  unfold runMz
  rw [if_neg (by omega : ¬ (k : Int) < 0)]
  split <;> omega
end Go.Proofs.YthfeecgpgempdaaDoor

/- A space as a map and counts: which places of the map are used; no program. -/
namespace Go.Proofs.YthfeecgpgempdaaDoor
set_option linter.unusedVariables false
set_option linter.unusedSimpArgs false
open Go.RowKit Dg

theorem length_mapR (u : Nat → Bool) (n : Nat) : ((List.range n).map u).length = n := by simp
theorem mapR_get (u : Nat → Bool) (n k : Nat) : ((List.range n).map u)[k]? = if k < n then some (u k) else none := by
  by_cases h : k < n
  · rw [if_pos h]; simp [h]
  · rw [if_neg h, List.getElem?_eq_none (by simp; omega)]
theorem dgt_mapR (u : Nat → Bool) (n k : Nat) : dgt ((List.range n).map u) k = if k < n then u k else true := by
  unfold dgt
  rw [mapR_get]
  split <;> rfl
/-- Two maps are one: as long, and each place alike. -/
theorem map_ext {m m' : List Bool} (hl : m.length = m'.length) (h : ∀ k, k < m.length → dgt m k = dgt m' k) : m = m' := by
  apply List.ext_getElem?
  intro k
  by_cases hk : k < m.length
  · have e := h k hk
    unfold dgt at e
    rw [List.getElem?_eq_getElem hk, List.getElem?_eq_getElem (by omega)] at e ⊢
    exact congrArg some e
  · rw [List.getElem?_eq_none (by omega), List.getElem?_eq_none (by omega)]
/-- The map of a space. -/
def mOf (s : Sd) : List Bool := (List.range s.N).map s.u
theorem length_mOf (s : Sd) : (mOf s).length = s.N := length_mapR _ _
theorem mOf_get (s : Sd) (k : Nat) (h : k < s.N) : (mOf s)[k]? = some (s.u k) := by unfold mOf; rw [mapR_get, if_pos h]
theorem dgt_mOf (s : Sd) (k : Nat) : dgt (mOf s) k = if k < s.N then s.u k else true := dgt_mapR _ _ _
theorem usedZ_mOf (s : Sd) (i : Int) : usedZ (mOf s) i = s.uZ i := by
  unfold usedZ Sd.uZ
  by_cases h0 : 0 ≤ i
  · obtain ⟨k, rfl⟩ : ∃ k : Nat, i = (k : Int) := ⟨i.toNat, by omega⟩
    rw [if_pos h0, Int.toNat_natCast, dgt_mOf]
    by_cases h : k < s.N
    · rw [if_pos h, if_pos ⟨by omega, by omega⟩]
    · rw [if_neg h, if_neg (by omega)]
  · rw [if_neg h0, if_neg (by omega)]
theorem mOf_is {m : List Bool} {s : Sd} (hl : m.length = s.N) (h : ∀ k, k < s.N → dgt m k = s.u k) : m = mOf s :=
  map_ext (by rw [hl, length_mOf]) (fun k hk => by rw [dgt_mOf, if_pos (by omega)]; exact h k (by omega))
/-- What a turn of one place leaves. -/
theorem dgt_setM (m : List Bool) (i : Int) (u : Bool) (k : Nat) (hk : k < m.length) : dgt (setM m i u) k = if (k : Int) = i then u else dgt m k := by
  unfold setM
  by_cases hs : setsB m i u
  · rw [if_pos hs]
    unfold setsB at hs
    rw [Bool.and_eq_true] at hs
    have h1 := of_decide_eq_true hs.1
    obtain ⟨j, rfl⟩ : ∃ j : Nat, i = (j : Int) := ⟨i.toNat, by omega⟩
    rw [Int.toNat_natCast, dgt_set (by omega)]
    by_cases e : j = k
    · rw [if_pos e, if_pos (by omega)]
    · rw [if_neg e, if_neg (by omega)]
  · rw [if_neg hs]
    by_cases e : (k : Int) = i
    · rw [if_pos e]
      subst e
      unfold setsB at hs
      rw [decide_eq_true (by omega), usedZ_nat] at hs
      cases hd : dgt m k <;> cases u <;> simp [hd] at hs ⊢
    · rw [if_neg e]
/-- Several are turned. -/
def turnM (u : Bool) (m : List Bool) (l : List Int) : List Bool := l.foldl (fun m i => setM m i u) m
theorem length_turnM (u : Bool) : ∀ (l : List Int) (m : List Bool), (turnM u m l).length = m.length
  | [], m => rfl
  | x :: l, m => by
    show (turnM u (setM m x u) l).length = _
    rw [length_turnM u l, length_setM]
theorem turnM_snoc (u : Bool) (m : List Bool) (l : List Int) (x : Int) : turnM u m (l ++ [x]) = setM (turnM u m l) x u := by unfold turnM; rw [List.foldl_append]; rfl
theorem dgt_turnM (u : Bool) : ∀ (l : List Int) (m : List Bool) (k : Nat), k < m.length → dgt (turnM u m l) k = if (k : Int) ∈ l then u else dgt m k
  | [], m, k, hk => by rw [if_neg (by simp)]; rfl
  | x :: l, m, k, hk => by
    show dgt (turnM u (setM m x u) l) k = _
    rw [dgt_turnM u l _ k (by rw [length_setM]; exact hk)]
    by_cases e : (k : Int) ∈ l
    · rw [if_pos e, if_pos (List.mem_cons_of_mem _ e)]
    · rw [if_neg e, dgt_setM m x u k hk]
      by_cases e2 : (k : Int) = x
      · rw [if_pos e2, if_pos (by rw [e2]; exact List.mem_cons_self ..)]
      · rw [if_neg e2, if_neg (by rw [List.mem_cons]; rintro (h | h); exact e2 h; exact e h)]
/-- The first ones are fixed. -/
def fstI (f : Nat) : List Int := (List.range f).map fun k : Nat => (k : Int)
theorem fstI_next (f : Nat) : fstI (f + 1) = fstI f ++ [(f : Int)] := by unfold fstI; rw [List.range_succ, List.map_append]; rfl
theorem mem_fstI (f k : Nat) : (k : Int) ∈ fstI f ↔ k < f := by
  unfold fstI
  rw [List.mem_map]
  constructor
  · rintro ⟨a, h1, h2⟩; rw [List.mem_range] at h1; omega
  · intro h; exact ⟨k, List.mem_range.2 h, rfl⟩
theorem newSd_u (n fx k : Nat) : (newSd n fx).u k = decide (k < fx) := by
  unfold Sd.u newSd
  simp only [getD_rep0, getD_repF]
  simp
theorem map_new (n fx : Nat) : turnM true (List.replicate n false) (fstI fx) = mOf (newSd n fx) := by
  refine mOf_is (by rw [length_turnM, List.length_replicate]; rfl) fun k hk => ?_
  have hk2 : k < n := hk
  rw [dgt_turnM _ _ _ _ (by rw [List.length_replicate]; exact hk2), newSd_u]
  by_cases e : k < fx
  · rw [if_pos ((mem_fstI _ _).2 e), decide_eq_true e]
  · rw [if_neg (fun h => e ((mem_fstI _ _).1 h)), decide_eq_false e]
    unfold dgt
    rw [List.getElem?_replicate, if_pos hk2]; rfl
/-- Share, Drop turn no place of the map. -/
theorem Sd.Fine.map_share {s : Sd} (h : s.Fine) (i : Int) : mOf (s.shareS i) = mOf s := by
  unfold Sd.shareS
  split
  · rename_i hp
    obtain ⟨k, rfl, hk, hg⟩ := Sd.of_pos hp
    refine mOf_is (by rw [length_mOf]) fun j hj => ?_
    have hj2 : j < s.N := hj
    rw [dgt_mOf, if_pos hj2, Int.toNat_natCast]
    show (decide (j < s.fx) || decide (0 < (s.C.set k _).getD j 0) || s.V.getD j false) = s.u j
    unfold Sd.u
    rw [getD_setN _ _ _ _ hk]
    by_cases e : k = j
    · subst e
      rw [if_pos rfl, decide_eq_true (p := 0 < s.C.getD k 0) (by omega), decide_eq_true (p := 0 < s.of (k : Int) + 1) (by omega)]
    · rw [if_neg e]
  · rfl
theorem Sd.Fine.map_less {s : Sd} (h : s.Fine) (i : Int) : mOf (s.lessS i) = mOf s := by
  unfold Sd.lessS
  split
  · rename_i hp
    obtain ⟨k, rfl, hk, hg⟩ := Sd.of_pos hp
    have hkv : k < s.V.length := by rw [h.v, ← h.c]; exact hk
    refine mOf_is (by rw [length_mOf]) fun j hj => ?_
    have hj2 : j < s.N := hj
    rw [dgt_mOf, if_pos hj2, Int.toNat_natCast]
    show (decide (j < s.fx) || decide (0 < (s.C.set k _).getD j 0) || (s.V.set k _).getD j false) = s.u j
    unfold Sd.u
    rw [getD_setN _ _ _ _ hk, getD_setB _ _ _ _ hkv]
    by_cases e : k = j
    · subst e
      rw [if_pos rfl, if_pos rfl, decide_eq_true (p := 0 < s.C.getD k 0) (by omega)]
      by_cases e2 : s.of (k : Int) - 1 = 0
      · rw [decide_eq_true e2]; simp
      · rw [decide_eq_true (p := 0 < s.of (k : Int) - 1) (by omega)]; simp
    · rw [if_neg e, if_neg e]
  · rfl
/-- Drop's counts. -/
theorem Sd.less_C (s : Sd) (i : Int) : (s.lessS i).C = dropS s.C i := by
  unfold Sd.lessS dropS
  by_cases h : 0 < s.of i
  · obtain ⟨k, rfl, hk, hg⟩ := Sd.of_pos h
    rw [if_pos h]
    have h2 : isSec s.C (k : Int) ∧ 0 < s.C.getD (k : Int).toNat 0 := ⟨⟨by omega, by omega⟩, by rw [Int.toNat_natCast]; omega⟩
    simp only [Int.toNat_natCast] at h2 ⊢
    first
      | (rw [if_pos h2, hg])
      | (simp [h2, hg])
  · rw [if_neg h]
    have h2 : ¬ (isSec s.C i ∧ 0 < s.C.getD i.toNat 0) := by
      rintro ⟨h3, h4⟩
      apply h
      unfold Sd.of ofR
      rw [if_pos h3]; exact h4
    rw [if_neg h2]
/-- Take: the least free one. -/
theorem Sd.Fine.first_some {s : Sd} (h : s.Fine) {k : Nat} (hk : s.least = some k) : IsFirst (mOf s) 0 (k : Int) ∧ (mOf s).set k true = mOf s.takeS ∧ s.takeS.C = s.C.set k 1 := by
  obtain ⟨h1, h2, h3⟩ := Sd.least_some hk
  obtain ⟨u1, u2, u3⟩ := Sd.u_false.1 h2
  refine ⟨.inl ⟨k, rfl, by omega, by rw [mOf_get s k h1, h2], fun j _ hj => ?_⟩, ?_, by rw [(Sd.take_yes hk).2]⟩
  · rw [mOf_get s j (by omega), h3 j hj]; simp
  · rw [(Sd.take_yes hk).2]
    refine mOf_is (by rw [List.length_set, length_mOf]) fun j hj => ?_
    have hj2 : j < s.N := hj
    rw [dgt_set (by rw [length_mOf]; exact h1), dgt_mOf, if_pos hj2]
    show _ = (decide (j < s.fx) || decide (0 < (s.C.set k 1).getD j 0) || s.V.getD j false)
    rw [getD_setN _ _ _ _ (by rw [h.c]; exact h1)]
    by_cases e : k = j
    · rw [if_pos e, if_pos e]; simp
    · rw [if_neg e, if_neg e]; rfl
theorem Sd.Fine.first_none {s : Sd} (h : s.Fine) (hk : s.least = none) : IsFirst (mOf s) 0 (-1) := by
  refine .inr ⟨rfl, fun j _ => ?_⟩
  by_cases hj : j < s.N
  · rw [mOf_get s j hj, Sd.least_none hk j hj]; simp
  · rw [List.getElem?_eq_none (by rw [length_mOf]; omega)]; simp
/-- Who waits. -/
theorem mem_waitTo (V : List Bool) (k : Nat) : ∀ j, (k : Int) ∈ waitTo V j ↔ k < j ∧ V.getD k false = true
  | 0 => by simp [waitTo]
  | j + 1 => by
    unfold waitTo
    by_cases h : V.getD j false = true
    · rw [if_pos h, List.mem_append, mem_waitTo V k j, List.mem_singleton]
      constructor
      · rintro (⟨h1, h2⟩ | h1)
        · exact ⟨by omega, h2⟩
        · obtain rfl : k = j := by omega
          exact ⟨by omega, h⟩
      · rintro ⟨h1, h2⟩
        by_cases e : k = j
        · exact .inr (by omega)
        · exact .inl ⟨by omega, h2⟩
    · rw [if_neg h, mem_waitTo V k j]
      constructor
      · rintro ⟨h1, h2⟩; exact ⟨by omega, h2⟩
      · rintro ⟨h1, h2⟩
        refine ⟨?_, h2⟩
        by_cases e : k = j
        · exact absurd (e ▸ h2) h
        · omega
theorem waitTo_low (V : List Bool) : ∀ j, (∀ i, i < j → V.getD i false = false) → waitTo V j = []
  | 0, _ => rfl
  | j + 1, h => by
    unfold waitTo
    rw [h j (by omega), waitTo_low V j (fun i hi => h i (by omega))]
    rfl
theorem Sd.Fine.waits_iff {s : Sd} (h : s.Fine) {k : Nat} (h1 : s.fx ≤ k) : (s.u k = true ∧ s.C.getD k 0 = 0) ↔ s.V.getD k false = true := by
  unfold Sd.u
  constructor
  · rintro ⟨h2, h3⟩
    rw [Bool.or_eq_true, Bool.or_eq_true, decide_eq_true_eq, decide_eq_true_eq] at h2
    rcases h2 with (h2 | h2) | h2
    · omega
    · omega
    · exact h2
  · intro h2
    exact ⟨by rw [h2]; simp, h.wait k h2⟩
/-- Commit turns those that wait. -/
theorem Sd.Fine.map_commit {s : Sd} (h : s.Fine) : turnM false (mOf s) s.waits = mOf s.commitS := by
  refine mOf_is (by rw [length_turnM, length_mOf]; rfl) fun k hk => ?_
  have hk2 : k < s.N := hk
  rw [dgt_turnM _ _ _ _ (by rw [length_mOf]; exact hk2), dgt_mOf, if_pos hk2]
  show _ = (decide (k < s.fx) || decide (0 < s.C.getD k 0) || (List.replicate s.N false).getD k false)
  rw [getD_repF]
  unfold Sd.waits
  by_cases e : s.V.getD k false = true
  · have hf : s.fx ≤ k := Nat.le_of_not_lt fun e2 => by rw [(h.low k e2).2] at e; cases e
    rw [if_pos ((mem_waitTo _ _ _).2 ⟨hk2, e⟩), h.wait k e, decide_eq_false (by omega)]
    rfl
  · rw [if_neg (fun hm => e ((mem_waitTo _ _ _).1 hm).2)]
    unfold Sd.u
    rw [Bool.eq_false_iff.2 e]
/-- Keep: the fixed ones, then those kept. -/
theorem Sd.Fine.map_keep {s : Sd} (h : s.Fine) {l : List Int} (hk : s.keepOk l = true) : turnM true (mOf (newSd s.N s.fx)) l = mOf (s.keepS l) ∧ (s.keepS l).C = addS (List.replicate s.N 0) l ∧ okZ (List.replicate s.N 0) l = true := by
  have hk2 := Sd.keepOk_iff.1 hk
  have hok : okZ (List.replicate s.N 0) l = true := (okZ_iff _ _).2 fun x hx => by
    unfold isSec
    rw [List.length_replicate]
    exact ⟨by have := (hk2 x hx).1; omega, (hk2 x hx).2⟩
  have hS : s.keepS l = ⟨s.N, s.fx, addZ (List.replicate s.N 0) l, List.replicate s.N false⟩ := by unfold Sd.keepS; rw [if_pos hk]
  refine ⟨?_, by rw [hS]; unfold addS; rw [if_pos hok], hok⟩
  rw [hS]
  refine mOf_is (by rw [length_turnM, length_mOf]; rfl) fun k hkk => ?_
  have hkN : k < s.N := hkk
  rw [dgt_turnM _ _ _ _ (by rw [length_mOf]; exact hkN), dgt_mOf, if_pos (show k < (newSd s.N s.fx).N from hkN), newSd_u]
  show _ = (decide (k < s.fx) || decide (0 < (addZ (List.replicate s.N 0) l).getD k 0) || (List.replicate s.N false).getD k false)
  rw [getD_repF, addZ_nought_get (fun x hx => ⟨by have := (hk2 x hx).1; omega, (hk2 x hx).2⟩) k hkN]
  by_cases e : (k : Int) ∈ l
  · rw [if_pos e, decide_eq_true (p := 0 < l.count (k : Int)) (List.count_pos_iff.2 e)]; simp
  · rw [if_neg e, List.count_eq_zero.2 e]; simp
theorem Sd.keep_no {s : Sd} {l : List Int} (hk : s.keepOk l = false) : s.keepS l = s := by unfold Sd.keepS; rw [hk]; rfl
/-- How many are free. -/
theorem Sd.free_used (s : Sd) : ∀ j, j ≤ s.N → s.freeTo j + usedN (mOf s) j = j
  | 0, _ => rfl
  | j + 1, hj => by
    have ih := s.free_used j (by omega)
    have hg := mOf_get s j (by omega)
    unfold Sd.freeTo usedN
    first
      | (rw [hg]; cases s.u j <;> simp <;> omega)
      | (simp only [hg]; cases s.u j <;> simp <;> omega)

end Go.Proofs.YthfeecgpgempdaaDoor

/- Numbers a third time: x[k:]; rows of noughts that were made. -/
namespace Go.Proofs.YthfeecgpgempdaaDoor
set_option linter.unusedVariables false
set_option linter.unusedSimpArgs false
open Go.RowKit Dg

/-- Where 'x[k:]' begins. -/
def lowI (a : Option Addr) (cap k : Nat) : Option Addr := if cap = k then a else a.map fun x => x.add k
theorem slice_ints_lo (a : Option Addr) (n cap k : Nat) (hk : k ≤ n) (W : World) : (Instr.sliceAt 30 (.slice a n cap) (some (.int .i64 (k : Int))) none none).run Tryd.prog W = .ok (.slice (lowI a cap k) (n - k) (cap - k)) W := by
  obtain ⟨i0, hi, hz0, hz1, hz2⟩ := info_parts Tryd.info3
  simp [Instr.sliceAt, Instr.slice, Instr.sliceBounds, Instr.sliceBound, asIntOf, run_underlying Tryd.underlying30, sizeOf, typeInfo, hi, hz1, hk, lowI]
theorem IntsAt.drop {w : World} {a : Option Addr} {cap : Nat} {l : List Int} (h : IntsAt w a l) (hc : l.length ≤ cap) (k : Nat) : IntsAt w (lowI a cap k) (l.drop k) := by
  intro j x hx
  rw [List.getElem?_drop] at hx
  have hj : k + j < l.length := (List.getElem?_eq_some_iff.1 hx).1
  obtain ⟨b, off, rfl, hcell⟩ := h (k + j) x hx
  refine ⟨b, off + k, ?_, ?_⟩
  · unfold lowI
    rw [if_neg (by omega)]
    simp [Addr.add]
  · rw [Nat.add_assoc]
    exact hcell
theorem madeI (n : Nat) : (madeCells (Value.int .i64 0).cells (n * 1)).toList = i64s (List.replicate n 0) := by
  apply List.ext_getElem?
  intro k
  by_cases hk : k < n
  · simp [madeCells, i64s, hk, Value.cells, Nat.mod_one]
  · rw [List.getElem?_eq_none (by simp [madeCells]; omega), List.getElem?_eq_none (by simp; omega)]
/-- A row of noughts that was just made. -/
theorem OwnInts.made {w : World} {base : Nat} {v : Value} {Z : List Int} (hZ : Z = List.replicate Z.length 0) (h : w.ownsRow base 3 1 v Z.length (madeCells (Value.int .i64 0).cells Z.length).toList) : OwnInts w base v Z := by
  show World.ownsRow _ _ _ _ _ _ _
  have e := madeI Z.length
  rw [← hZ, Nat.mul_one] at e
  rw [← e]; exact h

end Go.Proofs.YthfeecgpgempdaaDoor
