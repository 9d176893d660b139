/- The texts MpRef4, Ints, MpSame, one behind the other. -/
import Derived.Test.YthbophecmpdpdaaDoorPart04
import Derived.Test.YthbophecmpdpdaaDoorPart01
import Derived.Laws.AppendOwnNone

/- The document's map: Level. -/
namespace Go.Proofs.YthbophecmpdpdaaDoor
set_option linter.unusedVariables false
set_option linter.unusedSimpArgs false
open Go.RowKit Dg

theorem OwnBls.lt {w : World} {base : Nat} {v : Value} {m : List Bool} (h : OwnBls w base v m) : ∀ k, v.ownBlock = some k → base ≤ k ∧ k < w.heap.size := fun k hk => World.ownsRow.lt h k hk
theorem OwnWs.kept {w w' : World} {base : Nat} {v : Value} {l : List Nat} {F : Nat → Prop} (h : OwnWs w base v l) (hk : Kept F w w') (hF : ∀ k, v.ownBlock = some k → ¬ F k) : OwnWs w' base v l := ownsRow_other h hk hF
theorem oneC_b (l : List Bool) : ∀ u ∈ bls l, u.oneCell' = true := by
  intro u hu
  obtain ⟨x, -, rfl⟩ := List.mem_map.1 hu
  rfl
theorem lvlOf_succ {d : Nat} {R : List Bool} (h : (wsOf R).length ≠ 1) : lvlOf (d + 1) R = lvlOf d (upB (wsOf R)) := by show (if _ then _ else _) = _; rw [if_neg h]
theorem lvlOf_succ1 {d : Nat} {R : List Bool} (h : (wsOf R).length = 1) : lvlOf (d + 1) R = [] := by show (if _ then _ else _) = _; rw [if_pos h]
/-- Rows of words and of bools, apart. -/
structure LvF (w w0 : World) (rv ov : Value) (R : List Bool) (O : List Nat) : Prop where
  row : OwnBls w w0.heap.size rv R
  out : OwnWs w w0.heap.size ov O
  ne : ∀ k, rv.ownBlock = some k → ov.ownBlock ≠ some k
  bel : Below w0.heap.size w0 w
theorem wpList_append_lvw {P : Program} (w0 wB : World) {ops : Array Oper} {rest : List Oper} {o : Oper} {a : Act} {Q : Exit → Act → World → Prop}
    (hgd : o.guard = none) (s x : Operand) (t : TypeId) (ho : o.op = .call { callee := .builtin .append, args := #[s, x], argTypes := #[t, t] })
    (i : TypeInfo) (ht : P.underlying t = some (.slice 35)) (hi : P.info? 35 = some i) (hz : i.zero = some (.int .u64 0)) (hsize : i.size = 1) (hby : i.bytes = 8)
    (rv ov : Value) (R : List Bool) (O : List Nat) (hs : a.eval s = ov) (hL : LvF w0 wB rv ov R O) (y : Nat) (hx : a.eval x = .slice (some ⟨w0.heap.size, 0, none⟩) 1 1)
    (hl : O.length ≤ 1000000)
    (h : ∀ v' w', Hid (LvF w' wB rv v' R (O ++ [y])) → wpList P ops Q rest (a.put o.dst v') w') : wpList P ops Q (o :: rest) a (w0.alloc (.cells #[.int .u64 (y : Int)] 35)) := by
  have hbs : wB.heap.size ≤ w0.heap.size := hL.bel.size
  refine wpList_append_mine _ hgd s x t ho wB.heap.size 35 i (.int .u64 0) 1 8 ht hi hz hsize hby rfl (by decide) ov O.length (w64s O) hs (World.ownsRow.alloc hL.out _) ⟨w0.heap.size, 0, none⟩ 1 1 [.int .u64 (y : Int)] hx rfl ?c1 ?c2 (by decide) ?b1 ?b2 ?b3 ?_
  case c1 => intro j u hj; match j, hj with | 0, hj => simp at hj; subst hj; simp [Addr.add]
  case c2 => intro u hu; simp at hu; subst hu; rfl
  case b1 => unfold maxLen; omega
  case b2 => omega
  case b3 => simp; omega
  intro g cap w' H1 HG HN
  have hk : Kept (fun k => ov.ownBlock = some k ∨ w0.heap.size ≤ k) w0 w' := by
    have e1 : Kept (fun k => ov.ownBlock = some k ∨ w0.heap.size ≤ k) w0 (w0.alloc (.cells #[.int .u64 (y : Int)] 35)) := Kept.alloc _ _ _
    exact e1.trans ((Kept.grown HG.out).mono (fun k _ e => .inl e))
  refine h _ w' ⟨?_, ?_, ?_, ?_⟩
  · exact ownsRow_other hL.row hk (fun k e e2 => by
      rcases e2 with e2 | e2
      · exact hL.ne k e e2
      · have := (hL.row.lt k e).2; omega)
  · show World.ownsRow _ _ _ _ _ _ _
    have := H1.out
    simpa [w64s] using this
  · intro k e e2
    have e3 : g = k := by simpa [Value.ownBlock] using e2
    have := (hL.row.lt k e).2
    rcases HN.out with e4 | e4
    · exact hL.ne k e (by rw [← e3]; exact e4)
    · have e5 : w0.heap.size ≤ (w0.alloc (.cells #[.int .u64 (y : Int)] 35)).heap.size := by simp
      omega
  · exact hL.bel.trans ⟨hk.os, hk.tape, hk.output, hk.size, fun k hkb => hk.block k (by omega) (fun e2 => by
      rcases e2 with e2 | e2
      · have := (World.ownsRow.lt hL.out k e2).1; omega
      · omega)⟩
theorem wpList_append_lvb {P : Program} (w0 wB : World) {ops : Array Oper} {rest : List Oper} {o : Oper} {a : Act} {Q : Exit → Act → World → Prop}
    (hgd : o.guard = none) (s x : Operand) (t : TypeId) (ho : o.op = .call { callee := .builtin .append, args := #[s, x], argTypes := #[t, t] })
    (i : TypeInfo) (ht : P.underlying t = some (.slice 4)) (hi : P.info? 4 = some i) (hz : i.zero = some (.bool false)) (hsize : i.size = 1) (hby : i.bytes = 1)
    (rv ov : Value) (R : List Bool) (O : List Nat) (hs : a.eval s = rv) (hL : LvF w0 wB rv ov R O) (y : Bool) (hx : a.eval x = .slice (some ⟨w0.heap.size, 0, none⟩) 1 1)
    (hl : R.length ≤ 1000000)
    (h : ∀ v' w', Hid (LvF w' wB v' ov (R ++ [y]) O) → wpList P ops Q rest (a.put o.dst v') w') : wpList P ops Q (o :: rest) a (w0.alloc (.cells #[.bool y] 4)) := by
  have hbs : wB.heap.size ≤ w0.heap.size := hL.bel.size
  refine wpList_append_mine _ hgd s x t ho wB.heap.size 4 i (.bool false) 1 1 ht hi hz hsize hby rfl (by decide) rv R.length (bls R) hs (World.ownsRow.alloc hL.row _) ⟨w0.heap.size, 0, none⟩ 1 1 [.bool y] hx rfl ?c1 ?c2 (by decide) ?b1 ?b2 ?b3 ?_
  case c1 => intro j u hj; match j, hj with | 0, hj => simp at hj; subst hj; simp [Addr.add]
  case c2 => intro u hu; simp at hu; subst hu; rfl
  case b1 => unfold maxLen; omega
  case b2 => omega
  case b3 => simp; omega
  intro g cap w' H1 HG HN
  have hk : Kept (fun k => rv.ownBlock = some k ∨ w0.heap.size ≤ k) w0 w' := by
    have e1 : Kept (fun k => rv.ownBlock = some k ∨ w0.heap.size ≤ k) w0 (w0.alloc (.cells #[.bool y] 4)) := Kept.alloc _ _ _
    exact e1.trans ((Kept.grown HG.out).mono (fun k _ e => .inl e))
  refine h _ w' ⟨?_, ?_, ?_, ?_⟩
  · show World.ownsRow _ _ _ _ _ _ _
    have := H1.out
    simpa [bls] using this
  · exact ownsRow_other hL.out hk (fun k e e2 => by
      rcases e2 with e2 | e2
      · exact hL.ne k e2 e
      · have := (World.ownsRow.lt hL.out k e).2; omega)
  · intro k e e2
    have e3 : g = k := by simpa [Value.ownBlock] using e
    have := (World.ownsRow.lt hL.out k e2).2
    rcases HN.out with e4 | e4
    · exact hL.ne k (by rw [← e3]; exact e4) e2
    · have e5 : w0.heap.size ≤ (w0.alloc (.cells #[.bool y] 4)).heap.size := by simp
      omega
  · exact hL.bel.trans ⟨hk.os, hk.tape, hk.output, hk.size, fun k hkb => hk.block k (by omega) (fun e2 => by
      rcases e2 with e2 | e2
      · have := (World.ownsRow.lt hL.row k e2).1; omega
      · omega)⟩
theorem OwnBls.form {w : World} {base : Nat} {v : Value} {m : List Bool} (h : OwnBls w base v m) (h1 : 1 ≤ m.length) : ∃ g c, v = .slice (some ⟨g, 0, none⟩) m.length c := by
  rcases h.2 with ⟨_, e⟩ | ⟨g, cap, cur, e, -⟩
  · omega
  · exact ⟨g, cap, e⟩
theorem OwnWs.form {w : World} {base : Nat} {v : Value} {m : List Nat} (h : OwnWs w base v m) (h1 : 1 ≤ m.length) : ∃ g c, v = .slice (some ⟨g, 0, none⟩) m.length c := by
  rcases h.2 with ⟨_, e⟩ | ⟨g, cap, cur, e, -⟩
  · omega
  · exact ⟨g, cap, e⟩
theorem sh_one (j : Nat) (hj : j < 64) : (2 ^ j : Nat) < 18446744073709551616 := Nat.pow_lt_pow_right (n := 64) (by decide) hj

set_option maxHeartbeats 8000000 in
set_option maxRecDepth 100000 in
theorem rmlevel_any (w : World) (a : Option Addr) (n cap : Nat) (m : List Bool) (h : BlAt w a m) (hn : m.length = n) (hn1 : 1 ≤ n) (hle : n ≤ 4096) (k : Int) (hk : I64 k) (T : List Nat) (hT : T = lvlZ k m) :
    Calls Tryd.prog 28 #[.slice a n cap, .int .i64 k] w fun e w' => ∃ v, e = .returned v ∧ OwnWs w' w.heap.size v T ∧ Below w.heap.size w w' := by
  obtain ⟨i0, hi, hz0, hz1, hz2⟩ := info_parts Tryd.infoBl
  obtain ⟨i1, hi1, hy0, hy1, hy2⟩ := info_parts Tryd.infoW64
  obtain ⟨hk1, hk2⟩ := hk
  obtain ⟨K, hK⟩ : ∃ K : Nat, K = k.toNat := ⟨_, rfl⟩
  have HK : Hid ((k < 0 ∧ K = 0 ∧ T = []) ∨ (k = (K : Int) ∧ T = lvlOf K m)) := by
    by_cases e : k < 0
    · exact .inl ⟨e, by omega, by rw [hT]; unfold lvlZ; rw [if_pos e]⟩
    · exact .inr ⟨by omega, by rw [hT]; unfold lvlZ; rw [if_neg e, hK]⟩
  obtain ⟨y, rfl⟩ : ∃ y, a = some y := by
    obtain ⟨b, off, e, -⟩ := h 0 (m[0]'(by omega)) (List.getElem?_eq_getElem _)
    exact ⟨_, e⟩
  have hysp : y.spot = none := by
    obtain ⟨b, off, e, -⟩ := h 0 (m[0]'(by omega)) (List.getElem?_eq_getElem _)
    cases e; rfl
  have HC : Hid (∀ j u, (bls m)[j]? = some u → w.cell? (y.add j) = some u) := fun j u hu => by
    rw [bls_get] at hu
    obtain ⟨x, hx, rfl⟩ := Option.map_eq_some_iff.1 hu
    obtain ⟨b, off, e, hc⟩ := h j x hx
    cases e
    have hadd : (⟨b, off, none⟩ : Addr).add j = ⟨b, off + j, none⟩ := by simp [Addr.add] <;> omega
    rw [hadd]; exact hc
  have HN := hid_of hn
  clear h hn hT hK hysp
  go_enter Tryd.func28, Tryd.ntmps28
  go_wp2_with (at_builtin; go_must (refine wpList_append_mine w rfl (.const (.slice none 0 0)) (.tmp 12) 41 rfl w.heap.size 4 i0 (.bool false) 1 1 Tryd.underlying41 hi hz0 hz1 hz2 rfl (by decide) (.slice none 0 0) 0 [] rfl (OwnBls.nil _ _) y n cap (bls m) rfl ?c1 HC.out (oneC_b m) (by omega) ?b1 ?b2 (Nat.le_refl _) ?_))
  case c1 => rw [length_bls, HN.out]; omega
  case b1 => unfold maxLen; omega
  case b2 => omega
  intro g2 c2 w2 H1 H2 H3
  have HR0 : Hid (OwnBls w2 w.heap.size (.slice (some ⟨g2, 0, none⟩) n c2) m) := by
    show World.ownsRow _ _ _ _ _ _ _
    rw [HN.out]
    have e := H1.out
    simpa using e
  have HB0 : Hid (Below w.heap.size w w2) := (Below.refl _ _).grown H2.out (Nat.le_refl _) (fun k e => by cases e)
  have HT0 : Hid (∀ t : Nat, t = 0 → ((k < 0 ∧ t = 0 ∧ T = []) ∨ (k = (K : Int) ∧ T = lvlOf (K - t) m))) := fun t ht => by
    subst ht
    rcases HK.out with ⟨e1, e2, e3⟩ | ⟨e1, e2⟩
    · exact .inl ⟨e1, rfl, e3⟩
    · exact .inr ⟨e1, e2⟩
  clear H1 H2 H3
  try rw [Nat.zero_add]
  go_wp2_with fail
  go_loopw [5, 6] (fun rv lv wr => ∃ (t N g c : Nat) (R : List Bool), lv = .int .i64 (t : Int) ∧ rv = .slice (some ⟨g, 0, none⟩) N c ∧ Hid (R.length = N) ∧ 1 ≤ N ∧ N ≤ 4096 ∧ t ≤ K ∧ Hid (OwnBls wr w.heap.size (.slice (some ⟨g, 0, none⟩) N c) R) ∧ Hid (Below w.heap.size w wr) ∧ Hid ((k < 0 ∧ t = 0 ∧ T = []) ∨ (k = (K : Int) ∧ T = lvlOf (K - t) R))) (fun _ lv _ => K - (intOf lv).toNat)
  case atStart => exact ⟨0, n, g2, c2, m, rfl, rfl, HN, hn1, hle, Nat.zero_le _, HR0, HB0, HT0.out 0 rfl⟩
  case round =>
    obtain ⟨t, N, g, c, R, rfl, rfl, hRN, hN1, hN2, htK, hro, hbe, hT⟩ := hrel
    obtain ⟨L, hL⟩ : ∃ L, L = (N + 63) / 64 := ⟨_, rfl⟩
    have HLL := hid_of hL
    have HWL : Hid ((wsOf R).length = L) := by show _ = _; rw [length_wsOf, hRN.out, hL]
    have hL1 : 1 ≤ L := by omega
    have hL64 : L ≤ 64 := by omega
    have HF0 : Hid (LvF wr w (.slice (some ⟨g, 0, none⟩) N c) (.slice none 0 0) R ((wsOf R).take 0)) := ⟨hro.out, OwnWs.nil _ _, fun k e e2 => (by cases e2), hbe.out⟩
    clear hL hro hbe
    go_wp2_with fail
    go_loopw [7, 8] (fun ov iv ws => ∃ (I q : Nat), iv = .int .i64 (I : Int) ∧ Hid (I = 64 * q) ∧ I ≤ N + 63 ∧ Hid (LvF ws w (.slice (some ⟨g, 0, none⟩) N c) ov R ((wsOf R).take q))) (fun _ iv _ => N + 64 - (intOf iv).toNat)
    case atStart => exact ⟨0, 0, rfl, rfl, by omega, HF0⟩
    case round =>
      obtain ⟨I, q, rfl, hIq, hI, hlv⟩ := hrel
      by_cases hIN : I < N
      · have hIb : decide ((I : Int) < (N : Int)) = true := decide_eq_true (by omega)
        have HX0 : Hid (18446744073709551615 = wordTo R I 0) := (wordTo_zero R I).symm
        go_wp2_with fail
        go_loopw [9, 10] (fun xv jv wt => ∃ j x : Nat, j ≤ 64 ∧ jv = .int .i64 (j : Int) ∧ xv = .int .u64 (x : Int) ∧ Hid (x = wordTo R I j) ∧ I + j ≤ N ∧ wt = wr) (fun _ jv _ => 64 - (intOf jv).toNat)
        case atStart => exact ⟨0, 18446744073709551615, by omega, rfl, rfl, HX0, by omega, rfl⟩
        case round =>
          obtain ⟨j, x, hj, rfl, rfl, hx, hIj, rfl⟩ := hrel
          have hx64 : x < 18446744073709551616 := by rw [hx.out]; exact wordTo_lt _ _ _
          obtain ⟨e, he⟩ : ∃ e : Nat, e = I + j := ⟨_, rfl⟩
          have heI : (I : Int) + (j : Int) = (e : Int) := by omega
          have HE := hid_of he
          by_cases hgo : j < 64 ∧ e < N
          · obtain ⟨hg1, hg2⟩ := hgo
            obtain ⟨y, hy⟩ : ∃ y, R[e]? = some y := ⟨_, List.getElem?_eq_getElem (by rw [hRN.out]; exact hg2)⟩
            have hrow : World.ownsRow _ _ _ _ _ _ _ := hlv.out.row
            rw [hRN.out] at hrow
            obtain ⟨hc, -⟩ := bl_own_cell hrow hy
            have hd1 : decide ((j : Int) < 64) = true := decide_eq_true (by omega)
            have hd2 : decide ((e : Int) < (N : Int)) = true := decide_eq_true (by omega)
            have hd3 : decide (e < N) = true := decide_eq_true hg2
            have hd4 : decide (j < 64) = true := decide_eq_true hg1
            clear hrow
            cases y
            · obtain ⟨P, hP⟩ : ∃ P : Nat, P = 2 ^ j := ⟨_, rfl⟩
              obtain ⟨hp1, hp2⟩ := pow_int j hg1
              rw [← hP] at hp1 hp2
              have hP64 : P < 18446744073709551616 := by rw [hP]; exact sh_one j hg1
              obtain ⟨z, hz⟩ : ∃ z, z = x &&& (18446744073709551615 - P) := ⟨_, rfl⟩
              have hand := andNot_int x P hx64 hP64
              rw [← hz] at hand
              have HZ : Hid (z = wordTo R I (j + 1)) := by
                show _ = _
                rw [hz, hP, hx.out]
                exact wordTo_off (by rw [← he]; exact dgt_false.2 hy) hg1
              clear he hy hP hz hx
              go_wp2_with fail
              refine ⟨?_, by (simp [intOf]) <;> omega⟩
              first
                | exact ⟨j + 1, z, by omega, by go_num, rfl, HZ, by have := HE.out; omega, by first | rfl | trivial⟩
                | ((repeat apply Exists.intro); exact ⟨j + 1, z, by omega, by go_num, rfl, HZ, by have := HE.out; omega, by first | rfl | trivial⟩)
            · have HZ : Hid (x = wordTo R I (j + 1)) := by
                show _ = _
                rw [hx.out]
                exact (wordTo_stay (by unfold dgt; rw [← he, hy]; rfl)).symm
              clear he hy hx
              go_wp2_with fail
              refine ⟨?_, by (simp [intOf]) <;> omega⟩
              first
                | exact ⟨j + 1, x, by omega, by go_num, rfl, HZ, by have := HE.out; omega, by first | rfl | trivial⟩
                | ((repeat apply Exists.intro); exact ⟨j + 1, x, by omega, by go_num, rfl, HZ, by have := HE.out; omega, by first | rfl | trivial⟩)
          · have hxe : x = wordTo R I 64 := by
              rw [hx.out]
              by_cases e64 : j = 64
              · rw [e64]
              · exact wordTo_end (by rw [hRN.out]; omega)
            have hqL : q < L := by have := HLL.out; have := hIq.out; omega
            have HNX : Hid ((wsOf R).take q ++ [x] = (wsOf R).take (q + 1)) := by
              show _ = _
              rw [List.take_add_one, wsOf_get (by have := HLL.out; rw [hRN.out]; omega), hxe, hIq.out]
              rfl
            have hbj : decide ((j : Int) < 64) = false ∨ (decide ((j : Int) < 64) = true ∧ decide ((e : Int) < (N : Int)) = false ∧ decide (e < N) = false ∧ j < 64) := by
              by_cases e1 : j < 64
              · exact .inr ⟨decide_eq_true (by omega), decide_eq_false (by omega), decide_eq_false (by omega), e1⟩
              · exact .inl (decide_eq_false (by omega))
            have hlen : ((wsOf R).take q).length ≤ 1000000 := by rw [List.length_take, HWL.out]; omega
            have HLV2 := hlv
            clear he hgo hx hxe
            rcases hbj with hbj | ⟨hbj, hbe1, hbe2, hj64⟩
            all_goals
              go_wp2_with (at_builtin; go_must (refine wpList_append_lvw _ w rfl (.tmp 46) (.tmp 48) 33 rfl i1 Tryd.underlying33 hi1 hy0 hy1 hy2 _ _ R _ (by rfl) HLV2.out x (by rfl) hlen ?_))
              intro v2 w5 HV2
              have HV3 : Hid (LvF w5 w (.slice (some ⟨g, 0, none⟩) N c) v2 R ((wsOf R).take (q + 1))) := by show LvF _ _ _ _ _ _; rw [← HNX.out]; exact HV2.out
              have HI3 : Hid (I + 64 = 64 * (q + 1)) := by show _ = _; have := hIq.out; omega
              clear HV2
              go_wp2_with fail
              refine ⟨?_, by (simp [intOf]) <;> omega⟩
              first
                | exact ⟨I + 64, q + 1, by go_num, HI3, by omega, HV3⟩
                | ((repeat apply Exists.intro); refine ⟨?_, rfl⟩; exact ⟨I + 64, q + 1, by go_num, HI3, by omega, HV3⟩)
      · have hIb : decide ((I : Int) < (N : Int)) = false := decide_eq_false (by omega)
        have hIb2 : decide (I < N) = false := decide_eq_false (by omega)
        have hqL : q = L := by have := hIq.out; have := HLL.out; omega
        have hall : (wsOf R).take q = wsOf R := List.take_of_length_le (by rw [HWL.out]; omega)
        have hlv2 := hlv.out
        rw [hall] at hlv2
        obtain ⟨g5, c5, hov⟩ := OwnWs.form hlv2.out (by rw [HWL.out]; exact hL1)
        rw [HWL.out] at hov
        have HLV := hid_of hlv2
        clear hall hlv hlv2 hqL hIq hI hIN
        rcases hT.out with ⟨hk0, ht0, hTe⟩ | ⟨hkK, hTe⟩
        · have htk : ((t : Int) == k) = false := beq_eq_false_iff_ne.2 (by omega)
          have hkb : decide (k < 0) = true := decide_eq_true hk0
          subst hTe
          have HE : Hid (OwnWs wr w.heap.size (.slice none 0 0) []) := OwnWs.nil _ _
          have HBE := hid_of HLV.out.bel
          subst hov
          have hLc : ((L : Int) == 1) = true ∨ ((L : Int) == 1) = false := by cases ((L : Int) == 1) <;> simp
          rcases hLc with hLb | hLb
          all_goals
            go_wp2_with fail
            go_ret
            exact ⟨_, rfl, HE.out, HBE.out⟩
        · subst hkK
          by_cases htK2 : t = K
          · have htk : ((t : Int) == (K : Int)) = true := beq_iff_eq.2 (by omega)
            have hTw : T = wsOf R := by rw [hTe, htK2, Nat.sub_self]; rfl
            have HE : Hid (OwnWs wr w.heap.size (.slice (some ⟨g5, 0, none⟩) L c5) T) := by show OwnWs _ _ _ _; rw [hTw, ← hov]; exact HLV.out.out
            have HBE := hid_of HLV.out.bel
            subst hov
            clear hTe hTw htK2
            go_wp2_with fail
            go_ret
            exact ⟨_, rfl, HE.out, HBE.out⟩
          · have htk : ((t : Int) == (K : Int)) = false := beq_eq_false_iff_ne.2 (by omega)
            obtain ⟨d, hd⟩ : ∃ d, K - t = d + 1 := ⟨K - t - 1, by omega⟩
            rw [hd] at hTe
            by_cases hL2 : L = 1
            · have hTn : T = [] := by rw [hTe]; exact lvlOf_succ1 (by rw [HWL.out]; exact hL2)
              have HE : Hid (OwnWs wr w.heap.size (.slice none 0 0) T) := by show OwnWs _ _ _ _; rw [hTn]; exact OwnWs.nil _ _
              have HBE := hid_of HLV.out.bel
              have hLb : ((L : Int) == 1) = true := beq_iff_eq.2 (by omega)
              subst hov
              clear hTe hTn hd htK2 hL2
              go_wp2_with fail
              go_ret
              exact ⟨_, rfl, HE.out, HBE.out⟩
            · have hLb : ((L : Int) == 1) = false := beq_eq_false_iff_ne.2 (by omega)
              have hKb : decide ((K : Int) < 0) = false := decide_eq_false (by omega)
              have hTu : T = lvlOf (K - (t + 1)) (upB (wsOf R)) := by rw [hTe, lvlOf_succ (by rw [HWL.out]; exact hL2)]; congr 1; omega
              obtain ⟨O, hO⟩ : ∃ O, O = wsOf R := ⟨_, rfl⟩
              have HOL : Hid (O.length = L) := by show _ = _; rw [hO]; exact HWL.out
              have HTU : Hid (T = lvlOf (K - (t + 1)) (upB O)) := by show _ = _; rw [hO]; exact hTu
              have HF4 : Hid (LvF wr w (.slice none 0 0) (.slice (some ⟨g5, 0, none⟩) L c5) ((upB O).take 0) O) := ⟨OwnBls.nil _ _, by rw [hO, ← hov]; exact HLV.out.out, fun k e => (by cases e), HLV.out.bel⟩
              subst hov
              clear hTe hTu hd hL2 hO hT HLV
              go_wp2_with fail
              go_loopw [5, 11, 63] (fun rv _ jv ws => ∃ j : Nat, j ≤ L ∧ jv = .int .i64 (j : Int) ∧ Hid (LvF ws w rv (.slice (some ⟨g5, 0, none⟩) L c5) ((upB O).take j) O)) (fun _ _ jv _ => L - (intOf jv).toNat)
              case atStart => exact ⟨0, Nat.zero_le _, rfl, HF4⟩
              case round =>
                obtain ⟨j, hj, rfl, hlv⟩ := hrel
                by_cases hjL : j < L
                · obtain ⟨x, hx⟩ : ∃ x, O[j]? = some x := ⟨_, List.getElem?_eq_getElem (by rw [HOL.out]; exact hjL)⟩
                  have hrow : World.ownsRow _ _ _ _ _ _ _ := hlv.out.out
                  rw [HOL.out] at hrow
                  obtain ⟨hc, -⟩ := ws_cell hrow hx
                  clear hrow
                  have hlen : ((upB O).take j).length ≤ 1000000 := by rw [List.length_take, length_upB, HOL.out]; omega
                  obtain ⟨bb, hbb⟩ : ∃ bb, bb = decide (x = 18446744073709551615) := ⟨_, rfl⟩
                  have HNX : Hid ((upB O).take j ++ [bb] = (upB O).take (j + 1)) := by
                    show _ = _
                    rw [List.take_add_one, upB_get, hx, hbb]; rfl
                  have hxb : ((x : Int) == 18446744073709551615) = bb := by
                    rw [hbb]
                    by_cases e : x = 18446744073709551615
                    · rw [decide_eq_true e, e]; rfl
                    · rw [decide_eq_false e]; exact beq_eq_false_iff_ne.2 (by omega)
                  clear hbb hx
                  go_wp2_with (at_builtin; go_must (refine wpList_append_lvb _ w rfl (.tmp 66) (.tmp 72) 41 rfl i0 Tryd.underlying41 hi hz0 hz1 hz2 _ _ _ O (by rfl) hlv.out bb (by rfl) hlen ?_))
                  intro v2 w5 HV2
                  have HV3 : Hid (LvF w5 w v2 (.slice (some ⟨g5, 0, none⟩) L c5) ((upB O).take (j + 1)) O) := by show LvF _ _ _ _ _ _; rw [← HNX.out]; exact HV2.out
                  clear HV2
                  go_wp2_with fail
                  refine ⟨?_, by (simp [intOf]) <;> omega⟩
                  first
                    | exact ⟨j + 1, by omega, by go_num, HV3⟩
                    | ((repeat apply Exists.intro); refine ⟨?_, rfl⟩; exact ⟨j + 1, by omega, by go_num, HV3⟩)
                · obtain rfl : j = L := by omega
                  have hall : (upB O).take j = upB O := List.take_of_length_le (by rw [length_upB, HOL.out]; exact Nat.le_refl _)
                  have hlv2 := hlv.out
                  rw [hall] at hlv2
                  have HUL : Hid ((upB O).length = j) := by show _ = _; rw [length_upB]; exact HOL.out
                  obtain ⟨g6, c6, hrv⟩ := OwnBls.form hlv2.row (by rw [HUL.out]; exact hL1)
                  rw [HUL.out] at hrv
                  subst hrv
                  have HRO := hid_of hlv2.row
                  have HBO := hid_of hlv2.bel
                  clear hall hlv hlv2
                  go_wp2_with fail
                  refine ⟨?_, by (simp [intOf]) <;> omega⟩
                  first
                    | exact ⟨t + 1, j, g6, c6, upB O, by go_num, rfl, HUL, hL1, by omega, by omega, HRO, HBO, Or.inr ⟨by first | rfl | trivial, HTU.out⟩⟩
                    | ((repeat apply Exists.intro); refine ⟨?_, rfl⟩; exact ⟨t + 1, j, g6, c6, upB O, by go_num, rfl, HUL, hL1, by omega, by omega, HRO, HBO, Or.inr ⟨by first | rfl | trivial, HTU.out⟩⟩)

end Go.Proofs.YthbophecmpdpdaaDoor

/- Numbers in a row that can be read; rows of numbers of the call's own; Copy and Cut of numbers. -/
namespace Go.Proofs.YthbophecmpdpdaaDoor
set_option linter.unusedVariables false
set_option linter.unusedSimpArgs false
open Go.RowKit Dg

/-- Numbers that can be read. -/
def IntsAt (w : World) (a : Option Addr) (l : List Int) : Prop :=
  ∀ j x, l[j]? = some x → ∃ b off, a = some ⟨b, off, none⟩ ∧ w.cell? ⟨b, off + j, none⟩ = some (.int .i64 x)
theorem IntsAt.below {w w' : World} {a : Option Addr} {l : List Int} {B : Nat} (h : IntsAt w a l) (hb : Below B w w') (hB : ∀ x, a = some x → x.block < B) : IntsAt w' a l := by
  intro j x hx
  obtain ⟨b, off, rfl, hc⟩ := h j x hx
  refine ⟨b, off, rfl, ?_⟩
  rw [hb.cell (p := ⟨b, off + j, none⟩) (hB ⟨b, off, none⟩ rfl)]
  exact hc
theorem IntsAt.kept {w w' : World} {a : Option Addr} {l : List Int} {F : Nat → Prop} (h : IntsAt w a l) (hk : Kept F w w') (hF : ∀ x, a = some x → ¬ F x.block) : IntsAt w' a l := by
  intro j x hx
  obtain ⟨b, off, rfl, hc⟩ := h j x hx
  refine ⟨b, off, rfl, ?_⟩
  rw [hk.cell (World.block_lt_of_cell? w _ hc) (hF ⟨b, off, none⟩ rfl)]
  exact hc
theorem IntsAt.take {w : World} {a : Option Addr} {l : List Int} (h : IntsAt w a l) (n : Nat) : IntsAt w a (l.take n) := by
  intro j x hx
  refine h j x ?_
  rw [List.getElem?_take] at hx
  split at hx
  · exact hx
  · cases hx
theorem IntsAt.nil (w : World) (a : Option Addr) : IntsAt w a [] := fun j x hx => by simp at hx
/-- Numbers as values. -/
def i64s (l : List Int) : List Value := l.map fun x : Int => Value.int .i64 x
@[simp] theorem length_i64s (l : List Int) : (i64s l).length = l.length := by simp [i64s]
theorem i64s_get (l : List Int) (k : Nat) : (i64s l)[k]? = l[k]?.map fun x : Int => Value.int .i64 x := by simp [i64s]
theorem IntsAt.of_owns {w : World} {base : Nat} {a : Option Addr} {n m cap : Nat} {l : List Int} (h : w.ownsRow base 3 1 (.slice a m cap) n (i64s l)) : IntsAt w a l := by
  have hl : l.length = n := by have := h.1; simpa using this
  rcases h.2 with ⟨e, rfl⟩ | ⟨g, cap, cur, e, hb, hh, hn, _, hcs, htake⟩
  · have : l = [] := List.eq_nil_of_length_eq_zero hl
    subst this
    exact IntsAt.nil w a
  · cases e
    intro j x hx
    refine ⟨g, 0, rfl, ?_⟩
    have hj : j < l.length := (List.getElem?_eq_some_iff.1 hx).1
    have e : (i64s l)[j]? = some (.int .i64 x) := by rw [i64s_get, hx]; rfl
    rw [← htake, List.getElem?_take, if_pos (by omega)] at e
    simp only [World.cell?, hh]
    simpa using e
/-- The numbers of a slice that came in. -/
theorem IsRow.ints {w : World} {a : Option Addr} {len cap : Nat} {zs : List Int} (h : IsRow .i64 w a len cap zs) :
    ∃ l : List Int, l.length = len ∧ (∀ x ∈ l, I64 x) ∧ IntsAt w a l ∧ len ≤ cap ∧ cap ≤ maxLen ∧ (a = none → len = 0 ∧ cap = 0) ∧ ∀ x, a = some x → 0 < len → x.block < w.heap.size := by
  rcases h with ⟨rfl, rfl, rfl, rfl⟩ | ⟨x, rfl, hle, hm, hz, hc, hwf⟩
  · exact ⟨[], rfl, fun x hx => by simp at hx, IntsAt.nil w _, Nat.le_refl _, by decide, fun _ => ⟨rfl, rfl⟩, fun x hx => by cases hx⟩
  · have hsp : 0 < zs.length → x.spot = none := fun h0 => by
      have := spot_of_cell (hc 0 h0)
      simpa [Addr.add] using this
    refine ⟨zs.take len, by simp; omega, fun y hy => wf_i64 (hwf y (List.mem_of_mem_take hy)), ?_, hle, hm, (fun e => by cases e), ?_⟩
    · intro j y hy
      have hj : j < (zs.take len).length := (List.getElem?_eq_some_iff.1 hy).1
      simp at hj
      have hj2 : j < zs.length := by omega
      obtain ⟨b, off, s⟩ := x
      have hs := hsp (by omega)
      simp at hs
      subst hs
      refine ⟨b, off, rfl, ?_⟩
      have hcell := hc j hj2
      have hadd : (⟨b, off, none⟩ : Addr).add j = ⟨b, off + j, none⟩ := by simp [Addr.add]
      rw [hadd] at hcell
      rw [hcell]
      rw [List.getElem?_take, if_pos (by omega)] at hy
      simp [List.getD, hy]
    · intro y hy h0
      cases hy
      have hcell := hc 0 (by omega)
      exact World.block_lt_of_cell? w _ hcell
theorem Tryd.info3 : (Tryd.prog.info? 3).map (fun i => (i.zero, i.size, i.bytes)) = some (some (.int .i64 0), 1, 8) := by kernel_rfl
/-- A row of numbers of the call's own. -/
def OwnInts (w : World) (base : Nat) (v : Value) (l : List Int) : Prop := w.ownsRow base 3 1 v l.length (i64s l)
theorem OwnInts.nil (w : World) (base : Nat) : OwnInts w base (.slice none 0 0) [] := World.ownsRow_nil _ _ _ _
theorem OwnInts.slice {w : World} {base : Nat} {v : Value} {l : List Int} (h : OwnInts w base v l) : ∃ a cap, v = .slice a l.length cap ∧ IntsAt w a l ∧ (a = none ∧ l = [] ∧ cap = 0 ∨ ∃ g, a = some ⟨g, 0, none⟩ ∧ base ≤ g ∧ g < w.heap.size) := by
  have h' := h
  rcases h.2 with ⟨rfl, hn⟩ | ⟨g, cap, cur, rfl, hb, hh, hn, _, hcs, htake⟩
  · have : l = [] := List.eq_nil_of_length_eq_zero hn
    subst this
    exact ⟨none, 0, rfl, IntsAt.nil w _, .inl ⟨rfl, rfl, rfl⟩⟩
  · exact ⟨some ⟨g, 0, none⟩, cap, rfl, IntsAt.of_owns h, .inr ⟨g, rfl, hb, (Array.getElem?_eq_some_iff.1 hh).1⟩⟩
theorem OwnInts.below {w w' : World} {base B : Nat} {v : Value} {l : List Int} (h : OwnInts w base v l) (hb : Below B w w') (hB : ∀ k, v.ownBlock = some k → k < B) : OwnInts w' base v l := by
  refine ⟨h.1, ?_⟩
  rcases h.2 with hn | ⟨g, cap, cur, rfl, hg, hh, r⟩
  · exact .inl hn
  · exact .inr ⟨g, cap, cur, rfl, hg, by rw [hb.block g (hB g rfl)]; exact hh, r⟩
/-- 'append(z, n)' of one number that was just built. -/
theorem wpList_append_int {P : Program} (w0 : World) {ops : Array Oper} {rest : List Oper} {o : Oper} {a : Act} {Q : Exit → Act → World → Prop}
    (hgd : o.guard = none) (s x : Operand) (t : TypeId) (ho : o.op = .call { callee := .builtin .append, args := #[s, x], argTypes := #[t, t] })
    (base : Nat) (i : TypeInfo) (ht : P.underlying t = some (.slice 3)) (hi : P.info? 3 = some i) (hz : i.zero = some (.int .i64 0)) (hsize : i.size = 1) (hby : i.bytes = 8)
    (v : Value) (l : List Int) (hs : a.eval s = v) (hown : OwnInts w0 base v l) (y : Int) (hx : a.eval x = .slice (some ⟨w0.heap.size, 0, none⟩) 1 1)
    (hl : l.length ≤ 1000000) (hbase : base ≤ w0.heap.size)
    (h : ∀ v' w', Hid (OwnInts w' base v' (l ++ [y])) → Hid (Below base w0 w') → wpList P ops Q rest (a.put o.dst v') w') : wpList P ops Q (o :: rest) a (w0.alloc (.cells #[.int .i64 y] 3)) := by
  refine wpList_append_mine _ hgd s x t ho base 3 i (.int .i64 0) 1 8 ht hi hz hsize hby rfl (by decide) v l.length (i64s l) hs (World.ownsRow.alloc hown _) ⟨w0.heap.size, 0, none⟩ 1 1 [.int .i64 y] hx rfl ?c1 ?c2 (by decide) ?b1 ?b2 ?b3 ?_
  case c1 => intro j u hj; match j, hj with | 0, hj => simp at hj; subst hj; simp [Addr.add]
  case c2 => intro u hu; simp at hu; subst hu; rfl
  case b1 => unfold maxLen; omega
  case b2 => omega
  case b3 => simp; omega
  intro g cap w' H1 HG HN
  refine h _ w' ?_ ?_
  · show World.ownsRow _ _ _ _ _ _ _
    have := H1.out
    simpa [i64s] using this
  · exact ((Below.refl base w0).alloc hbase _).grown HG.out (by simp; omega) (fun k hk => (World.ownsRow.lt hown k hk).1)
end Go.Proofs.YthbophecmpdpdaaDoor

/- Both maps beside each other: is all that is told what the document says? -/
namespace Go.Proofs.YthbophecmpdpdaaDoor
set_option linter.unusedVariables false
set_option linter.unusedSimpArgs false
open Go.RowKit Dg

set_option maxRecDepth 100000 in
set_option maxHeartbeats 1000000 in
theorem same64_any (w : World) (a1 a2 : Option Addr) (n c1 c2 : Nat) (l : List Nat) (hn : l.length = n) (h1 : WsAt w a1 l) (h2 : WsAt w a2 l) (hl : n ≤ 4398046511104) :
    Calls Tryd.prog 27 #[.slice a1 n c1, .slice a2 n c2] w fun e w' => e = .returned (.bool true) ∧ ∃ n, w' = w.drewN n := by
  have H1 := hid_of h1
  have H2 := hid_of h2
  have HN := hid_of hn
  clear h1 h2 hn
  go_enter Tryd.func27, Tryd.ntmps27
  go_wp2
  go_loopw [5] (fun i wr => ∃ k m : Nat, k ≤ n ∧ i = .int .i64 k ∧ wr = w.drewN m) (fun i _ => n - (intOf i).toNat)
  case atStart => exact ⟨0, 0, Nat.zero_le _, rfl, rfl⟩
  case round =>
    obtain ⟨k, m, hk, rfl, rfl⟩ := hrel
    by_cases hkn : k < n
    · obtain ⟨x, hx⟩ : ∃ x, l[k]? = some x := ⟨_, List.getElem?_eq_getElem (by rw [HN.out]; exact hkn)⟩
      obtain ⟨b1, o1, rfl, e1⟩ := H1.out k x hx
      obtain ⟨b2, o2, rfl, e2⟩ := H2.out k x hx
      clear hx H1 H2
      go_wp2
      go_region
      all_goals go_wp2
      all_goals go_roundw
      case rel => exact ⟨k + 1, m + 1, by omega, by go_num, rfl⟩
      case measure => simp [intOf]; omega
    · go_wp2
      go_ret
      exact ⟨rfl, m, rfl⟩
/-- Both maps, made ahead of w0. -/
structure SmO (w0 w : World) (b g c : Nat) (y : Addr) (m : List Bool) : Prop where
  is : MpIs w b g c m
  row : BlAt w (some y) m
  lts : b < w0.heap.size ∧ g < w0.heap.size ∧ y.block < w0.heap.size ∧ 0 < w0.heap.size
  bel : Below w0.heap.size w0 w
theorem SmO.newer {w0 w w' : World} {b g c : Nat} {y : Addr} {m : List Bool} (h : SmO w0 w b g c y m) (hb : Below w.heap.size w w') : SmO w0 w' b g c y m := by
  obtain ⟨l1, l2, l3, l4⟩ := h.lts
  have hs := h.bel.size
  exact ⟨h.is.kept (below_kept hb) (by omega) (by omega) (by omega), h.row.kept (below_kept hb) (fun _ y' e => by cases e; omega), h.lts, h.bel.trans (hb.mono hs)⟩
theorem SmO.draws {w0 w : World} {b g c : Nat} {y : Addr} {m : List Bool} (h : SmO w0 w b g c y m) (n : Nat) : SmO w0 (w.drewN n) b g c y m := h.newer (below_drewN (Below.refl _ _) n)
theorem SmO.start {w : World} {b g c : Nat} {y : Addr} {m : List Bool} (h : MpIs w b g c m) (hr : BlAt w (some y) m) : SmO w w b g c y m :=
  ⟨h, hr, ⟨h.lt.1, h.lt.2, hr.lt (fun e => by have := h.pos; rw [e] at this; exact absurd this (by decide)) y rfl, h.tab.lt⟩, Below.refl _ _⟩
theorem OwnWs.newer {w w' : World} {base : Nat} {v : Value} {l : List Nat} (h : OwnWs w base v l) (hb : Below w.heap.size w w') : OwnWs w' base v l :=
  h.kept (below_kept hb) (fun k e => by have := (World.ownsRow.lt h k e).2; omega)
theorem lvlOf_len (i : Nat) : ∀ m : List Bool, m.length ≤ 4096 → (lvlOf i m).length ≤ 64 := by
  induction i with
  | zero => intro m h; show (wsOf m).length ≤ 64; rw [length_wsOf]; omega
  | succ i ih =>
    intro m h
    have e : lvlOf (i + 1) m = if (wsOf m).length = 1 then [] else lvlOf i (upB (wsOf m)) := rfl
    rw [e]
    split
    · exact Nat.zero_le _
    · exact ih _ (by rw [length_upB, length_wsOf]; omega)
theorem lvlZ_len (k : Int) {m : List Bool} (h : m.length ≤ 4096) : (lvlZ k m).length ≤ 64 := by
  unfold lvlZ
  split
  · exact Nat.zero_le _
  · exact lvlOf_len _ m h
set_option maxRecDepth 100000 in
set_option maxHeartbeats 8000000 in
theorem same11_any (w : World) (b g c : Nat) (m : List Bool) (y : Addr) (n cap : Nat) (f q : Int) (h : MpIs w b g c m) (hrow : BlAt w (some y) m) (hn : m.length = n) (hf : I64 f) (hq : I64 q) :
    Calls Tryd.prog 18 #[.pointer (some ⟨b, 0, none⟩), .slice (some y) n cap, .int .i64 f, .int .i64 q] w fun e w' => e = .returned (.bool true) ∧ Below w.heap.size w w' := by
  have hn1 : 1 ≤ n := by have := h.pos; omega
  have hle : n ≤ 4096 := by have := h.le; omega
  have HS0 := hid_of (SmO.start h hrow)
  have HN := hid_of hn
  have HF := hid_of hf
  have HQ := hid_of hq
  obtain ⟨RF, hRF, -⟩ := first_is m f
  obtain ⟨RQ, hRQ⟩ := run_is m q hq
  have HRF := hid_of hRF
  have HRQ := hid_of hRQ
  obtain ⟨u, hu⟩ : ∃ u, u = usedN m m.length := ⟨_, rfl⟩
  have HU := hid_of hu
  obtain ⟨T, hT⟩ : ∃ T, T = bytesTo m m.length := ⟨_, rfl⟩
  have HT := hid_of hT
  have HTL : Hid (T.length ≤ 1000) := by show _ ≤ _; rw [hT, length_bytesTo]; omega
  have hnn : ((n : Int) == (n : Int)) = true := by simp
  have huu : ((u : Int) == (u : Int)) = true := by simp
  have hff : (RF == RF) = true := by simp
  have hqq : (RQ == RQ) = true := by simp
  clear h hrow hn hf hq hRF hRQ hu hT
  go_enter Tryd.func18, Tryd.ntmps18
  go_wp2_with fail
  go_loopw [9] (fun v wr => ∃ k : Int, -1 ≤ k ∧ k ≤ 4 ∧ v = .int .i64 k ∧ Hid (SmO w wr b g c y m)) (fun v _ => (4 - intOf v).toNat)
  case atStart => exact ⟨-1, by decide, by decide, rfl, HS0⟩
  case round =>
    obtain ⟨k, hk1, hk2, rfl, hs⟩ := hrel
    by_cases hk4 : k < 4
    · obtain ⟨V, hV⟩ : ∃ V, V = lvlZ k m := ⟨_, rfl⟩
      have HVL : Hid (V.length ≤ 64) := by show _ ≤ _; rw [hV]; exact lvlZ_len k hs.out.is.le
      have HV := hid_of hV
      have HL1 := hid_of (mlevel_is wr b g c m hs.out.is k ⟨by omega, by omega⟩ V hV)
      clear hV
      go_wp2_with fail
      refine HL1.out.mono ?_
      rintro e w1 ⟨v1, rfl, ho1, hb1⟩
      have HS1 := hid_of (hs.out.newer hb1)
      have HO1 := hid_of ho1
      clear ho1 hb1 HL1
      go_wp2_with fail
      refine (rmlevel_any w1 (some y) n cap m HS1.out.row HN.out hn1 hle k ⟨by omega, by omega⟩ V HV.out).mono ?_
      rintro e w2 ⟨v2, rfl, ho2, hb2⟩
      have HS2 := hid_of (HS1.out.newer hb2)
      have hx1 := HO1.out.newer hb2
      obtain ⟨a1, c1, rfl, hw1, -⟩ := hx1.slice
      obtain ⟨a2, c2, rfl, hw2, -⟩ := ho2.slice
      obtain ⟨L, hL⟩ : ∃ L, L = V.length := ⟨_, rfl⟩
      have HSM := hid_of (same64_any w2 a1 a2 L c1 c2 V hL.symm hw1 hw2 (by have := HVL.out; omega))
      rw [← hL]
      clear ho2 hb2 hx1 hw1 hw2 hL HO1 HS1 hs
      go_wp2_with fail
      refine HSM.out.mono ?_
      rintro e w3 ⟨rfl, d3, rfl⟩
      have HS3 := hid_of (HS2.out.draws d3)
      clear HS2 HSM
      go_wp2_with fail
      refine ⟨?_, by (simp [intOf]) <;> omega⟩
      first
        | exact ⟨k + 1, by omega, by omega, rfl, HS3⟩
        | ((repeat apply Exists.intro); refine ⟨?_, rfl⟩; exact ⟨k + 1, by omega, by omega, rfl, HS3⟩)
    · have hkb : decide (k < 4) = false := decide_eq_false hk4
      go_wp2_with fail
      go_loopw [10] (fun v wr => ∃ i : Int, -1 ≤ i ∧ i ≤ (n : Int) + 1 ∧ v = .int .i64 i ∧ Hid (SmO w wr b g c y m)) (fun v _ => ((n : Int) + 1 - intOf v).toNat)
      case atStart => exact ⟨-1, by decide, by omega, rfl, hs⟩
      case round =>
        clear hs
        obtain ⟨i, hi1, hi2, rfl, hs⟩ := hrel
        by_cases hin : i ≤ (n : Int)
        · have HUS := hid_of (mused_is wr b g c m hs.out.is i ⟨by omega, by omega⟩ _ rfl)
          rcases (by omega : i < 0 ∨ i = (n : Int) ∨ (0 ≤ i ∧ i < (n : Int))) with hneg | heq | ⟨hp1, hp2⟩
          · have hux : usedZ m i = true := by unfold usedZ; rw [if_neg (by omega)]
            rw [hux] at HUS
            clear hux
            go_wp2_with fail
            refine HUS.out.mono ?_
            rintro e w3 ⟨rfl, rfl⟩
            go_wp2_with fail
            refine ⟨?_, by (simp [intOf]) <;> omega⟩
            first
              | exact ⟨i + 1, by omega, by omega, rfl, hs⟩
              | ((repeat apply Exists.intro); refine ⟨?_, rfl⟩; exact ⟨i + 1, by omega, by omega, rfl, hs⟩)
          · have hux : usedZ m i = true := by rw [heq, usedZ_nat]; exact dgt_behind (by rw [HN.out]; exact Nat.le_refl _)
            rw [hux] at HUS
            have hnb : decide (i < 0) = false := decide_eq_false (by omega)
            have hgb : decide ((n : Int) ≤ i) = true := decide_eq_true (by omega)
            clear hux heq
            go_wp2_with fail
            refine HUS.out.mono ?_
            rintro e w3 ⟨rfl, rfl⟩
            go_wp2_with fail
            refine ⟨?_, by (simp [intOf]) <;> omega⟩
            first
              | exact ⟨i + 1, by omega, by omega, rfl, hs⟩
              | ((repeat apply Exists.intro); refine ⟨?_, rfl⟩; exact ⟨i + 1, by omega, by omega, rfl, hs⟩)
          · obtain ⟨j, rfl⟩ : ∃ j : Nat, i = (j : Int) := ⟨i.toNat, by omega⟩
            have hjn : j < n := by omega
            obtain ⟨z, hz⟩ : ∃ z, m[j]? = some z := ⟨_, List.getElem?_eq_getElem (by rw [HN.out]; exact hjn)⟩
            have hux : usedZ m (j : Int) = z := by rw [usedZ_nat]; unfold dgt; rw [hz]; rfl
            rw [hux] at HUS
            obtain ⟨bb, ob, ey, hc⟩ := hs.out.row j z hz
            cases ey
            have hnb : decide ((j : Int) < 0) = false := decide_eq_false (by omega)
            have hgb : decide ((n : Int) ≤ (j : Int)) = false := decide_eq_false (by omega)
            have hgb2 : decide (n ≤ j) = false := decide_eq_false (by omega)
            have hzz : (z != z) = false := by simp
            clear hux hz
            go_wp2_with fail
            refine HUS.out.mono ?_
            rintro e w3 ⟨rfl, rfl⟩
            go_wp2_with fail
            refine ⟨?_, by (simp [intOf]) <;> omega⟩
            first
              | exact ⟨(j : Int) + 1, by omega, by omega, rfl, hs⟩
              | ((repeat apply Exists.intro); refine ⟨?_, rfl⟩; exact ⟨(j : Int) + 1, by omega, by omega, rfl, hs⟩)
        · have hib : decide (i ≤ (n : Int)) = false := decide_eq_false hin
          have HLN := hid_of (mlen_is wr b g c m hs.out.is n HN.out.symm)
          go_wp2_with fail
          refine HLN.out.mono ?_
          rintro e w3 ⟨rfl, rfl⟩
          go_wp2_with fail
          refine (mcount_is _ b g c m hs.out.is u HU.out).mono ?_
          rintro e w3 ⟨rfl, d3, rfl⟩
          have HS3 := hid_of (hs.out.draws d3)
          clear hs HLN
          go_wp2_with fail
          refine (rmcount_any _ (some y) n cap m HS3.out.row HN.out hle u (by rw [← HN.out]; exact HU.out)).mono ?_
          rintro e w4 ⟨rfl, rfl⟩
          go_wp2_with fail
          refine (mfirst_is _ b g c m HS3.out.is f HF.out RF HRF.out).mono ?_
          rintro e w4 ⟨rfl, rfl⟩
          go_wp2_with fail
          refine (rmfirst_any _ (some y) n cap m HS3.out.row HN.out hle f HF.out RF HRF.out).mono ?_
          rintro e w4 ⟨rfl, rfl⟩
          go_wp2_with fail
          refine (mrun_is _ b g c m HS3.out.is q HQ.out RQ HRQ.out).mono ?_
          rintro e w4 ⟨rfl, rfl⟩
          go_wp2_with fail
          refine (rmrun_any _ (some y) n cap m HS3.out.row HN.out hle q HQ.out RQ HRQ.out).mono ?_
          rintro e w4 ⟨rfl, rfl⟩
          go_wp2_with fail
          refine (mbytes_is _ b g c m HS3.out.is T HT.out).mono ?_
          rintro e w5 ⟨v5, rfl, ho5, hb5⟩
          have HS5 := hid_of (HS3.out.newer hb5)
          have HO5 := hid_of ho5
          clear ho5 hb5 HS3
          go_wp2_with fail
          refine (rmbytes_any w5 (some y) n cap m HS5.out.row HN.out hn1 hle T HT.out).mono ?_
          rintro e w6 ⟨v6, rfl, ho6, hb6⟩
          have HS6 := hid_of (HS5.out.newer hb6)
          have hx5 : OwnBytes w6 _ v5 T := ownsRow_other HO5.out (below_kept hb6) (fun k e => by have := (World.ownsRow.lt HO5.out k e).2; omega)
          have HSB := hid_of (same_any w6 v5 v6 T (SlAt.of_owns hx5) (SlAt.of_owns ho6) (by have := HTL.out; omega))
          clear ho6 hb6 hx5 HO5 HS5
          go_wp2_with fail
          refine HSB.out.mono ?_
          rintro e w7 ⟨rfl, d7, rfl⟩
          have HS7 := hid_of (HS6.out.draws d7)
          go_wp2_with fail
          go_ret
          exact ⟨rfl, HS7.out.bel⟩

end Go.Proofs.YthbophecmpdpdaaDoor
