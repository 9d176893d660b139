/- FieldShort: the walk of the law. -/
import Derived.Test.YtdfgceplgcblkaaFld4
namespace Go.Proofs.Ytdfgceplgcblkaa
set_option linter.unusedVariables false
set_option linter.unusedSimpArgs false
open Go.RowKit Dg

theorem takeN_sum (l : List Nat) (ws : List Int) (h : ∀ x ∈ ws, 0 ≤ x ∧ x ≤ 7) : (ws.sum ≤ (l.length : Int) ∧ ∃ out, takeN l ws = some out ∧ out.length = ws.length) ∨ ((l.length : Int) < ws.sum ∧ takeN l ws = none) := by
  induction ws generalizing l with
  | nil => exact .inl ⟨by simp, [], rfl, rfl⟩
  | cons x ws ih =>
    obtain ⟨h1, h2⟩ := h x (by simp)
    have hs : 0 ≤ ws.sum := by
      have : ∀ ws : List Int, (∀ x ∈ ws, 0 ≤ x ∧ x ≤ 7) → 0 ≤ ws.sum := by
        intro ws
        induction ws with
        | nil => intro _; simp
        | cons y ws ih => intro h; have := (h y (by simp)).1; have := ih (fun z hz => h z (by simp [hz])); simp only [List.sum_cons]; omega
      exact this ws (fun y hy => h y (by simp [hy]))
    simp only [takeN, List.sum_cons]
    by_cases hx : x ≤ (l.length : Int)
    · rw [if_pos ⟨h1, h2, hx⟩]
      have hd : ((l.drop x.toNat).length : Int) = l.length - x := by simp; omega
      rcases ih (l.drop x.toNat) (fun y hy => h y (by simp [hy])) with ⟨h3, out, h4, h5⟩ | ⟨h3, h4⟩
      · exact .inl ⟨by omega, _, by rw [h4]; rfl, by simp [h5]⟩
      · exact .inr ⟨by omega, by rw [h4]; rfl⟩
    · rw [if_neg (by omega)]
      exact .inr ⟨by omega, rfl⟩
theorem takeN_snoc_bad (l : List Nat) (ws : List Int) (x : Int) (h : ¬ (0 ≤ x ∧ x ≤ 7)) : takeN l (ws ++ [x]) = none := by
  induction ws generalizing l with
  | nil => simp only [List.nil_append, takeN]; rw [if_neg (by omega)]
  | cons y ws ih =>
    simp only [List.cons_append, takeN]
    split
    · rw [ih]; rfl
    · rfl
theorem sum_take_next (zs : List Int) (j : Nat) (y : Int) (h : zs[j]? = some y) : (zs.take (j + 1)).sum = (zs.take j).sum + y := by
  rw [List.take_add_one, h]
  simp
theorem sum_le (zs : List Int) (h : ∀ x ∈ zs, 0 ≤ x ∧ x ≤ 7) (j : Nat) : 0 ≤ (zs.take j).sum ∧ (zs.take j).sum ≤ 7 * (zs.take j).length := by
  have : ∀ ws : List Int, (∀ x ∈ ws, 0 ≤ x ∧ x ≤ 7) → 0 ≤ ws.sum ∧ ws.sum ≤ 7 * ws.length := by
    intro ws
    induction ws with
    | nil => intro _; simp
    | cons y ws ih => intro h; have := h y (by simp); have := ih (fun z hz => h z (by simp [hz])); simp only [List.sum_cons, List.length_cons]; omega
  exact this _ (fun x hx => h x (List.mem_of_mem_take hx))
theorem map_next (l : List Int) (f : Int → Int) (n j : Nat) (x : Int) (hx : l[j]? = some x) (hj : j < n) : ((l.take n).map f)[j]? = some (f x) := by
  simp [List.getElem?_take, hj, hx]
theorem take_next (zs : List Int) (j : Nat) (y : Int) (h : zs[j]? = some y) : zs.take (j + 1) = zs.take j ++ [y] := by rw [List.take_add_one, h]; rfl

theorem Took.shape {w w' : World} {l : List Nat} {zs : List Int} {t : Int} {e : Ending} (h : Took w w' (takeN l zs) e) (hz : ∀ x ∈ zs, 0 ≤ x ∧ x ≤ 7) (ht : t = zs.sum) :
    (t ≤ (l.length : Int) ∧ ∃ va vc, e = .returned (.tuple #[.slice va zs.length vc, .bool true])) ∨ ((l.length : Int) < t ∧ ∃ va vc, e = .returned (.tuple #[.slice va 0 vc, .bool false])) := by
  obtain ⟨v, rfl, ho, hb⟩ := h
  obtain ⟨va, vc, rfl, _, _⟩ := ho.slice
  subst ht
  rcases takeN_sum l zs hz with ⟨h1, out, h2, h3⟩ | ⟨h1, h2⟩
  · rw [h2]
    exact .inl ⟨h1, va, vc, by rw [← h3]; rfl⟩
  · rw [h2]
    exact .inr ⟨h1, va, vc, rfl⟩

theorem hid_of {p : Prop} (h : p) : Hid p := h
theorem Took.not {w w' : World} {e : Ending} (h : Took w w' Option.none e) : ∃ v, e = .returned (.tuple #[v, .bool false]) ∧ Below w.heap.size w w' := by
  obtain ⟨v, rfl, ho, hb⟩ := h
  exact ⟨v, rfl, hb⟩
/-- 'append(z, n)' of one number that was just built, its outcome named. -/
theorem wpList_append_int_as {P : Program} (w0 : World) {ops : Array Oper} {rest : List Oper} {o : Oper} {a : Act} {Q : Exit → Act → World → Prop}
    (hgd : o.guard = none) (s x : Operand) (t : TypeId) (ho : o.op = .call { callee := .builtin .append, args := #[s, x], argTypes := #[t, t] })
    (base : Nat) (i : TypeInfo) (ht : P.underlying t = some (.slice 3)) (hi : P.info? 3 = some i) (hz : i.zero = some (.int .i64 0)) (hsize : i.size = 1) (hby : i.bytes = 8)
    (v : Value) (l us : List Int) (hs : a.eval s = v) (hown : OwnInts w0 base v l) (y : Int) (hus : us = l ++ [y]) (hx : a.eval x = .slice (some ⟨w0.heap.size, 0, none⟩) 1 1)
    (hl : l.length ≤ 1000000) (hbase : base ≤ w0.heap.size)
    (h : ∀ ya yc w', Hid (OwnInts w' base (.slice ya us.length yc) us) → Hid (IntsAt w' ya us) → Hid (Below base w0 w') → wpList P ops Q rest (a.put o.dst (.slice ya us.length yc)) w') : wpList P ops Q (o :: rest) a (w0.alloc (.cells #[.int .i64 y] 3)) := by
  refine wpList_append_int w0 hgd s x t ho base i ht hi hz hsize hby v l hs hown y hx hl hbase ?_
  intro v' w' h1 h2
  rw [← hus] at h1
  obtain ⟨ya, yc, rfl, hy, _⟩ := h1.out.slice
  exact h ya yc w' h1 hy h2
theorem zeros8_at {w : World} {g base : Nat} (h : w.ownsRow base 5 1 (.slice (some ⟨g, 0, none⟩) 8 8) 8 (madeCells #[.int .u8 0] 8).toList) : SlAt w (.slice (some ⟨g, 0, none⟩) 8 8) (List.replicate 8 0) := by
  have e := made_zeros 8
  rw [Nat.mul_one] at e
  exact SlAt.of_owns (base := base) (n := 8) (by rw [← e]; exact h)

set_option maxRecDepth 100000 in
set_option maxHeartbeats 8000000 in
theorem fshort_any (W : World) (a : Option Addr) (len cap : Nat) (zb : List Int) (wa : Option Addr) (wlen wcap : Nat) (zw : List Int) (bad : Int) (hr : IsRow .u8 W a len cap zb) (hrw : IsRow .i64 W wa wlen wcap zw) (hbad : I64 bad) :
    Calls Try.prog 8 #[.slice a len cap, .slice wa wlen wcap, .int .i64 bad] W fun e W' => e = .returned (.bool true) ∧ Below W.heap.size W W' := by
  obtain ⟨i0, hi, hz0, hz1, hz2⟩ := info_parts Try.info3
  obtain ⟨k0, hki, hkz0, hkz1, hkz2⟩ := info_parts Try.info5
  obtain ⟨l, hll, h256, hbs, hc1, hc2, hc3⟩ := Bs.of_row (n := 40) hr
  have HLL : Hid (min len 40 = l.length) := hll.symm
  have hl40 : l.length ≤ 40 := by omega
  have HS : Hid (Bs W a cap l) := hbs
  have H256 : Hid (∀ x ∈ l, x < 256) := h256
  have HC3 : Hid (a = none → len = 0 ∧ cap = 0) := hc3
  obtain ⟨vs, hvl, hvI, hvat, hvle, hvm, hvnone, hvblk⟩ := hrw.ints
  obtain ⟨hb1, hb2⟩ := hbad
  unfold maxLen at hvm
  subst hvl
  obtain ⟨zs, hzs⟩ : ∃ zs, zs = (vs.take 8).map (fun x => x % 8) := ⟨_, rfl⟩
  have hzl : zs.length ≤ 8 ∧ zs.length ≤ vs.length ∧ (vs.length ≤ zs.length ∨ 8 ≤ zs.length) := by rw [hzs]; simp; omega
  obtain ⟨hz8, hzle, hzor⟩ := hzl
  have HZ : Hid (zs = (vs.take 8).map (fun x => x % 8)) := hzs
  have HAT : Hid (IntsAt W wa vs) := hvat
  have HI : Hid (∀ x ∈ vs, I64 x) := hvI
  have HN : Hid (∀ x ∈ zs, 0 ≤ x ∧ x ≤ 7) := by
    intro x hx
    rw [hzs] at hx
    obtain ⟨y, _, rfl⟩ := List.mem_map.1 hx
    show 0 ≤ y % 8 ∧ y % 8 ≤ 7
    omega
  have HNI : Hid (∀ x ∈ zs, I64 x) := fun x hx => by have := HN.out x hx; unfold I64; omega
  clear hzs hvat hvI hrw hvblk hll h256 hbs hc3 hr
  go_enter Try.func8, Try.ntmps8
  go_wp2_with fail
  refine (cut_any W a len cap 40 (by decide) hc1 hc2 HC3.out).mono ?_
  rintro e w0 ⟨rfl, rfl⟩
  rw [HLL.out]
  go_wp2_with fail
  go_loopw [7, 8, 9] (fun v s i wr => ∃ (j : Nat) (t : Int), i = .int .i64 (j : Int) ∧ s = .int .i64 t ∧ j ≤ zs.length ∧ Hid (t = (zs.take j).sum) ∧ 0 ≤ t ∧ t ≤ 56 ∧ Hid (OwnInts wr W.heap.size v (zs.take j)) ∧ Hid (Below W.heap.size W wr)) (fun _ _ i _ => zs.length - (intOf i).toNat)
  case atStart => exact ⟨0, 0, rfl, rfl, Nat.zero_le _, rfl, by decide, by decide, OwnInts.nil _ _, Below.refl _ _⟩
  case round =>
    obtain ⟨j, t, rfl, rfl, hj, ht, ht0, ht1, ho, hb⟩ := hrel
    by_cases hjn : j < zs.length
    · have hj8 : j < 8 := by omega
      have hjl : j < vs.length := by omega
      obtain ⟨x, hx⟩ : ∃ x, vs[j]? = some x := ⟨vs[j], by simp [hjl]⟩
      obtain ⟨b0, off, rfl, hc⟩ := HAT.out j x hx
      obtain ⟨hx1, hx2⟩ := HI.out x (List.mem_of_getElem? hx)
      have hc' : wr.cell? ⟨b0, off + j, none⟩ = some (.int .i64 x) := by
        rw [hb.out.cell (p := ⟨b0, off + j, none⟩) (World.block_lt_of_cell? W _ hc)]
        exact hc
      obtain ⟨y, hy⟩ : ∃ y, y = x % 8 := ⟨_, rfl⟩
      have HY : Hid (x % 8 = y) := hy.symm
      have hzj : zs[j]? = some y := by rw [HZ.out, hy]; exact map_next vs _ 8 j x hx hj8
      have HNX : Hid (zs.take (j + 1) = zs.take j ++ [y]) := take_next zs j y hzj
      have HSX : Hid (t + y = (zs.take (j + 1)).sum) := by show _ = _; rw [sum_take_next zs j y hzj, ht.out]
      have hy7 : 0 ≤ y ∧ y ≤ 7 := by omega
      obtain ⟨hy0, hy7⟩ := hy7
      have hty : t + y ≤ 56 := by
        have h1 := (sum_le zs HN.out (j + 1)).2
        have h2 : (zs.take (j + 1)).length ≤ 8 := by simp; omega
        rw [← HSX.out] at h1
        omega
      have hlt : (zs.take j).length ≤ 1000000 := by simp; omega
      have hsz : W.heap.size ≤ wr.heap.size := hb.out.size
      clear hc hx hy hzj
      go_wp2_with first
        | (go_at_call 9; refine (within_any _ _ _ (by omega) (by omega) (by decide) (by decide)).mono ?_; rw [HY.out]; rintro e w2 ⟨rfl, rfl⟩)
        | (at_builtin; go_must (refine wpList_append_int _ rfl (.tmp 34) (.tmp 36) 33 rfl W.heap.size i0 Try.underlying33 hi hz0 hz1 hz2 _ (zs.take j) rfl ho.out y rfl hlt hsz ?_))
      intro v' w' h1 h2
      rw [← HNX.out] at h1
      have HB' : Hid (Below W.heap.size W w') := hb.out.trans h2.out
      clear h2
      go_wp2_with fail
      refine ⟨⟨j + 1, t + y, by go_num, rfl, by omega, HSX, by omega, hty, h1, HB'⟩, by (simp [intOf]) <;> omega⟩
    · have ej : j = zs.length := by omega
      subst ej
      have ho' := ho.out
      rw [List.take_length] at ho'
      have ht' := ht.out
      rw [List.take_length] at ht'
      obtain ⟨sa, sc, rfl, hsat, hsor⟩ := ho'.slice
      have HO : Hid (OwnInts wr W.heap.size (.slice sa zs.length sc) zs) := ho'
      have HSA : Hid (IntsAt wr sa zs) := hsat
      have HTS : Hid (t = zs.sum) := ht'
      have hcc : (zs.length < vs.length ∧ decide ((zs.length : Int) < 8) = false) ∨ vs.length ≤ zs.length := by
        by_cases h : vs.length ≤ zs.length
        · exact .inr h
        · exact .inl ⟨by omega, by simp; omega⟩
      have HSW : Hid (Bs wr a cap l) := HS.out.below hb.out
      have hsz : W.heap.size ≤ wr.heap.size := hb.out.size
      have hbc : (bad < 0 ∧ Hid ((if 0 ≤ bad ∧ bad ≤ 7 then 8 else bad) = bad)) ∨ (0 ≤ bad ∧ bad ≤ 7 ∧ Hid ((if 0 ≤ bad ∧ bad ≤ 7 then 8 else bad) = (8 : Int))) ∨ (0 ≤ bad ∧ 7 < bad ∧ Hid ((if 0 ≤ bad ∧ bad ≤ 7 then 8 else bad) = bad)) := by
        by_cases h1 : bad < 0
        · exact .inl ⟨h1, if_neg (by omega)⟩
        · by_cases h2 : bad ≤ 7
          · exact .inr (.inl ⟨by omega, h2, if_pos (by omega)⟩)
          · exact .inr (.inr ⟨by omega, by omega, if_neg (by omega)⟩)
      clear ho ho' ht ht' hsat hsor hzor HAT HI hvnone hvle hvm
      rcases hcc with ⟨hc, hc'⟩ | hc
      all_goals
        go_wp2_with fail
        refine (ftake_any wr a sa cap sc l zs HSW.out HSA.out (by omega) (by omega) H256.out HNI.out _ rfl).mono ?_
        rintro e w2 htk
        have hsh := htk.shape HN.out HTS.out
        obtain ⟨v2, -, -, hb2⟩ := htk
        have HB2 : Hid (Below W.heap.size W w2) := hb.out.trans (hb2.mono hsz)
        have HO2 : Hid (OwnInts w2 W.heap.size (.slice sa zs.length sc) zs) := HO.out.below hb2 (fun k hk => (World.ownsRow.lt HO.out k hk).2)
        have hs2 : W.heap.size ≤ w2.heap.size := by have := hb2.size; omega
        have HS2 : Hid (Bs w2 a cap l) := HS.out.below HB2.out
        clear hb2 HSW HSA HO hb
        rcases hsh with ⟨hle, va, vc, rfl⟩ | ⟨hle, va, vc, rfl⟩
        all_goals rcases hbc with ⟨hbc, HIF⟩ | ⟨hbc, hbc', HIF⟩ | ⟨hbc, hbc', HIF⟩
        all_goals
          obtain ⟨B, us, hus, hnone⟩ : ∃ (B : Int) (us : List Int), us = zs ++ [if 0 ≤ bad ∧ bad ≤ 7 then 8 else bad] ∧ takeN l us = none := ⟨0, _, rfl, takeN_snoc_bad l zs _ (by split <;> omega)⟩
          have HU : Hid (none = takeN l us) := hnone.symm
          have HUI : Hid (∀ x ∈ us, I64 x) := by
            intro x hx
            rw [hus] at hx
            rcases List.mem_append.1 hx with h | h
            · exact HNI.out x h
            · simp at h
              unfold I64
              subst h
              split <;> omega
          have hul : us.length ≤ 9 := by rw [hus]; simp; omega
          rw [HIF.out] at hus
          have HUS := hid_of hus
          clear hus hnone HIF
          go_wp2_with (at_builtin; go_must (refine wpList_append_int_as _ rfl (.tmp 80) (.tmp 82) 33 rfl W.heap.size i0 Try.underlying33 hi hz0 hz1 hz2 _ zs us rfl HO2.out _ HUS.out rfl (by omega) hs2 ?_))
          intro ya yc w3 h3 hya hb3
          have HB3 : Hid (Below W.heap.size W w3) := HB2.out.trans hb3.out
          have HS3 : Hid (Bs w3 a cap l) := HS.out.below HB3.out
          have hs3 : W.heap.size ≤ w3.heap.size := by have := hb3.out.size; omega
          clear h3 hb3 HS2 HB2 HO2
          go_wp2_with fail
          refine (ftake_any w3 a ya cap yc l us HS3.out hya.out (by omega) (by omega) H256.out HUI.out none HU.out).mono ?_
          rintro e w4 htk4
          obtain ⟨v4, rfl, hb4⟩ := htk4.not
          have HB4 : Hid (Below W.heap.size W w4) := HB3.out.trans (hb4.mono hs3)
          have hs4 : W.heap.size ≤ w4.heap.size := by have := hb4.size; omega
          clear hb4 htk4 hya HS3 HB3
          go_wp2_with (at_make; go_must (refine wpList_make_full _ rfl _ _ 23 rfl W.heap.size 5 k0 (.int .u8 0) 1 Try.underlying23 hki hkz0 hkz1 _ _ _ _ 8 rfl rfl rfl rfl (by rw [hkz2]; decide) (by decide) hs4 ?_))
          intro w5 ho5 hg5
          have HB5 : Hid (Below W.heap.size W w5) := HB4.out.grown hg5 hs4 (fun k hk => by cases hk)
          have HS5 : Hid (SlAt w5 (.slice (some ⟨w4.heap.size, 0, none⟩) 8 8) (List.replicate 8 0)) := zeros8_at ho5
          have hs5 : W.heap.size ≤ w5.heap.size := by have := hg5.size; omega
          clear ho5 hg5 HB4
          go_wp2_with fail
          refine (fget_bad w5 _ _ HS5.out (by decide) (by decide)).mono ?_
          rintro e w6 ⟨rfl, rfl⟩
          go_wp2_with fail
          refine (wakes4_any w5).mono ?_
          rintro e w6 ⟨rfl, hb6⟩
          have HB6 : Hid (Below W.heap.size W w6) := HB5.out.trans (hb6.mono hs5)
          clear hb6
          go_wp2
          go_ret
          exact ⟨rfl, HB6.out⟩

end Go.Proofs.Ytdfgceplgcblkaa
