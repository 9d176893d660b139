/- The texts MpP5, MpP6, MpP7, MpP8, MpO, MpDoor, MpRef1, MpRef2, MpRef3, one behind the other. -/
import Derived.Test.YthbophecmpdpdaaDoorPart03
import Derived.Lib.SliceRun
import Derived.Deep.CutRange
import Derived.Deep.RegionHeld
import Derived.BigQuiet
import Derived.Test.YthbophecmpdpdaaDoorRows
import Derived.Test.YthbophecmpdpdaaDoorTie
import Derived.Test.YthbophecmpdpdaaDoorCards
import Derived.ProofKit
import Derived.LaidMore
import Derived.MakeChecks
import Derived.Stop.Joined
import Derived.Lib.LaidTab
import Derived.SevenTiedAt
import Derived.Test.YthbophecmpdpdaaDoorPart02

/- The program's map: Clone; Bytes; Level. -/
namespace Go.Proofs.YthbophecmpdpdaaDoor
set_option linter.unusedVariables false
set_option linter.unusedSimpArgs false
open Go.RowKit Dg

theorem oneC_w (l : List Nat) : ∀ u ∈ w64s l, u.oneCell' = true := by
  intro u hu
  obtain ⟨x, -, rfl⟩ := List.mem_map.1 hu
  rfl
set_option maxHeartbeats 1000000 in
set_option maxRecDepth 100000 in
/-- 'slices.Clone' of words. -/
theorem mcw_any (w : World) (g n c : Nat) (l : List Nat) (hn1 : 1 ≤ n) (hn2 : n ≤ 100000) (h : w.ownsRow 0 35 1 (.slice (some ⟨g, 0, none⟩) n c) n (w64s l)) :
    Calls Tryd.prog 25 #[.slice (some ⟨g, 0, none⟩) n c] w fun e w' => ∃ g2 c2, e = .returned (.slice (some ⟨g2, 0, none⟩) n c2) ∧ w'.ownsRow w.heap.size 35 1 (.slice (some ⟨g2, 0, none⟩) n c2) n (w64s l) ∧ Below w.heap.size w w' := by
  obtain ⟨i0, hi, hz0, hz1, hz2⟩ := info_parts Tryd.infoW64
  have qT : ∀ (w : World) (a : Option Addr) (n c n' c' : Nat), (binOp .eql 33 (.slice a n c) (.slice none n' c')).run Tryd.prog w = .ok (.bool a.isNone) w := fun w a n c n' c' => Lib.run_eql_slice_nil w _ _ a n c n' c' Tryd.underlying33
  have HB0 : Hid (Below w.heap.size w (w.alloc (.cells #[] 35))) := (Below.refl _ _).alloc (Nat.le_refl _) _
  have HO : Hid ((w.alloc (.cells #[] 35)).ownsRow w.heap.size 35 1 (.slice (some ⟨w.heap.size, 0, none⟩) 0 0) 0 []) := ws_new w w.heap.size #[] 0 [] rfl rfl (by decide) (Nat.le_refl _)
  have HS := hid_of h
  have hl : l.length = n := by have := h.1; simpa using this
  have HL := hid_of hl
  have HC : Hid (∀ j u, (w64s l)[j]? = some u → (w.alloc (.cells #[] 35)).cell? ((⟨g, 0, none⟩ : Addr).add j) = some u) := fun j u hu => by
    rw [w64s_get] at hu
    obtain ⟨x, hx, rfl⟩ := Option.map_eq_some_iff.1 hu
    have hadd : (⟨g, 0, none⟩ : Addr).add j = ⟨g, j, none⟩ := by simp [Addr.add]; omega
    rw [hadd, (Kept.alloc (fun _ => False) w _).cell (World.ownsRow.lt h g rfl).2 (fun h => h)]
    exact (ws_cell h hx).1
  clear h hl
  go_enter Tryd.func25, Tryd.ntmps25
  go_wp2_with (at_builtin; go_must (refine wpList_append_mine _ rfl (.tmp 5) (.tmp 6) 33 rfl w.heap.size 35 i0 (.int .u64 0) 1 8 Tryd.underlying33 hi hz0 hz1 hz2 rfl (by decide) _ 0 [] rfl HO.out ⟨g, 0, none⟩ n c (w64s l) rfl ?c1 HC.out (oneC_w l) (by omega) ?b1 ?b2 HB0.out.size ?_))
  case c1 => rw [length_w64s, HL.out]; omega
  case b1 => unfold maxLen; omega
  case b2 => omega
  intro g2 c2 w2 H1 H2 H3
  have HO2 : Hid (w2.ownsRow w.heap.size 35 1 (.slice (some ⟨g2, 0, none⟩) n c2) n (w64s l)) := by
    first
      | exact H1
      | (have e := H1.out; rw [Nat.zero_add] at e; exact e)
  have HB2 : Hid (Below w.heap.size w w2) := HB0.out.grown H2.out HB0.out.size (fun k e => by cases e; exact Nat.le_refl _)
  clear H1 H2 H3
  try rw [Nat.zero_add]
  go_wp2_with fail
  go_ret
  exact ⟨g2, c2, rfl, HO2.out, HB2.out⟩
/-- The bytes of the first i. -/
def bytesTo (m : List Bool) : Nat → List Nat
  | 0 => List.replicate ((m.length + 7) / 8) 0
  | i + 1 => if m[i]? = some true then (bytesTo m i).set (i / 8) ((bytesTo m i).getD (i / 8) 0 ||| 128 / 2 ^ (i % 8)) else bytesTo m i
theorem length_bytesTo (m : List Bool) : ∀ i, (bytesTo m i).length = (m.length + 7) / 8
  | 0 => by simp [bytesTo]
  | i + 1 => by
    unfold bytesTo
    split
    · rw [List.length_set, length_bytesTo m i]
    · exact length_bytesTo m i
theorem bytesTo_lt (m : List Bool) : ∀ i, ∀ x ∈ bytesTo m i, x < 256
  | 0, x, h => by have := (List.mem_replicate.1 h).2; omega
  | i + 1, x, h => by
    unfold bytesTo at h
    split at h
    · rcases List.mem_or_eq_of_mem_set h with h | h
      · exact bytesTo_lt m i x h
      · rw [h]
        refine Nat.or_lt_two_pow (n := 8) ?_ (Nat.lt_of_le_of_lt (Nat.div_le_self _ _) (by decide))
        rw [List.getD_eq_getElem?_getD]
        cases e : (bytesTo m i)[i / 8]? with
        | none => decide
        | some y => exact bytesTo_lt m i y (List.mem_of_getElem? e)
    · exact bytesTo_lt m i x h
theorem u8_or_nat (a b : Nat) (ha : a < 256) (hb : b < 256) : bits .or .u8 (a : Int) (b : Int) = ((a ||| b : Nat) : Int) := by
  have hx : a ||| b < 2 ^ 8 := Nat.or_lt_two_pow (by omega) (by omega)
  have h1 : (BitVec.ofInt 8 (a : Int)).toNat = a := by
    rw [BitVec.ofInt_natCast, BitVec.toNat_ofNat]; exact Nat.mod_eq_of_lt (by omega)
  have h2 : (BitVec.ofInt 8 (b : Int)).toNat = b := by
    rw [BitVec.ofInt_natCast, BitVec.toNat_ofNat]; exact Nat.mod_eq_of_lt (by omega)
  show IntKind.u8.wrap ((BitVec.ofInt 8 (a : Int) ||| BitVec.ofInt 8 (b : Int)).toNat : Int) = _
  rw [BitVec.toNat_or, h1, h2]
  show IntKind.u8.wrap (((a ||| b : Nat) : Nat) : Int) = _
  generalize a ||| b = y at hx
  simp [IntKind.wrap, IntKind.signed, IntKind.bits]
  omega

end Go.Proofs.YthbophecmpdpdaaDoor

/- The program's map: Clone. -/
namespace Go.Proofs.YthbophecmpdpdaaDoor
set_option linter.unusedVariables false
set_option linter.unusedSimpArgs false
open Go.RowKit Dg

set_option maxHeartbeats 4000000 in
set_option maxRecDepth 100000 in
theorem mclone_is (w : World) (b g c : Nat) (m : List Bool) (h : MpIs w b g c m) :
    Calls Tryd.prog 20 #[.pointer (some ⟨b, 0, none⟩)] w fun e w' => ∃ b2 g2 c2, e = .returned (.pointer (some ⟨b2, 0, none⟩)) ∧ MpIs w' b2 g2 c2 m ∧ w.heap.size ≤ b2 ∧ w.heap.size ≤ g2 ∧ Below w.heap.size w w' := by
  obtain ⟨c0, c1⟩ := h.cell
  have hlen := h.len
  have hd : w.drew.ownsRow 0 35 1 (.slice (some ⟨g, 0, none⟩) (wsOf m).length c) (wsOf m).length (w64s (wsOf m)) := ownsRow_other h.ws (Kept.refl (fun _ => False) _).drew (fun _ _ h => h)
  have HC := hid_of (mcw_any w.drew g _ c (wsOf m) hlen.2.1 (by omega) hd)
  have H0 := hid_of h
  obtain ⟨L, hL⟩ : ∃ L, L = (wsOf m).length := ⟨_, rfl⟩
  obtain ⟨n, hn⟩ : ∃ n, n = m.length := ⟨_, rfl⟩
  rw [← hn] at c0
  rw [← hL] at c1 HC
  have HL := hid_of hL
  have HN := hid_of hn
  have hbl := h.lt.1
  have HCL : Hid (∀ W : World, Below w.heap.size w W → W.cell? ⟨b, 0, none⟩ = some (.int .i64 (n : Int)) ∧ W.cell? ⟨b, 1, none⟩ = some (.slice (some ⟨g, 0, none⟩) L c)) := fun W hW => by
    rw [hW.cell (p := ⟨b, 0, none⟩) hbl, hW.cell (p := ⟨b, 1, none⟩) hbl]; exact ⟨c0, c1⟩
  clear h hL hn hlen hd
  go_enter Tryd.func20, Tryd.ntmps20
  go_upto_region 1 with fail
  go_region_with (go_at_call 25; refine HC.out.mono ?_; rintro e w2 ⟨g2, c2, rfl, ho2, hb2⟩; have HO2 := hid_of ho2; have HB2 : Hid (Below w.heap.size w w2) := ((Below.refl w.heap.size w).drew).trans hb2; obtain ⟨hcc0, hcc1⟩ := HCL.out w2 HB2.out; clear ho2 hb2)
  all_goals
    go_wp2_with fail
    go_ret
    have hg := World.ownsRow.lt HO2.out g2 rfl
    have hg' : w.heap.size ≤ g2 := hg.1
    have hsz := HB2.out.size
    have hT := H0.out.tab
    refine ⟨w2.heap.size, g2, c2, rfl, ⟨?_, ?_, ?_, H0.out.pos, H0.out.le, ?_⟩, hsz, hg', HB2.out.alloc hsz _⟩
    · rw [heap_alloc_new, ← HL.out, ← HN.out]
    · rw [← HL.out]
      exact ownsRow_base (World.ownsRow.alloc HO2.out _) (Nat.zero_le _)
    · exact (hT.below HB2.out hT.lt).kept (Kept.alloc (fun _ => False) _ _) (fun h => h)
    · have := hT.lt
      have := hg.2
      exact ⟨by omega, by omega, by omega⟩

end Go.Proofs.YthbophecmpdpdaaDoor

/- The program's map: above, Level. -/
namespace Go.Proofs.YthbophecmpdpdaaDoor
set_option linter.unusedVariables false
set_option linter.unusedSimpArgs false
open Go.RowKit Dg

/-- The first i of m, and noughts. -/
def fillTo (m : List Bool) (i : Nat) : List Bool := m.take i ++ List.replicate (m.length - i) false
theorem length_fillTo {m : List Bool} {i : Nat} (h : i ≤ m.length) : (fillTo m i).length = m.length := by simp [fillTo]; omega
theorem fillTo_zero (m : List Bool) : fillTo m 0 = List.replicate m.length false := by simp [fillTo]
theorem fillTo_end (m : List Bool) : fillTo m m.length = m := by simp [fillTo]
theorem fillTo_get {m : List Bool} {i : Nat} (h : i < m.length) : (fillTo m i)[i]? = some false := by
  unfold fillTo
  rw [List.getElem?_append_right (by simp; omega), List.length_take, Nat.min_eq_left (Nat.le_of_lt h), Nat.sub_self, List.getElem?_replicate, if_pos (by omega)]
theorem fillTo_next {m : List Bool} {i : Nat} {b : Bool} (h : m[i]? = some b) : fillTo m (i + 1) = (fillTo m i).set i b := by
  have hi := (List.getElem?_eq_some_iff.1 h).1
  unfold fillTo
  rw [List.set_append_right _ _ (by rw [List.length_take]; omega), List.length_take, Nat.min_eq_left (Nat.le_of_lt hi), Nat.sub_self, show m.length - i = (m.length - (i + 1)) + 1 by omega, List.replicate_succ, List.set_cons_zero, List.take_add_one, h]
  simp
theorem or_xor {x r : Nat} (h : x.testBit r = false) : x ||| 2 ^ r = x ^^^ 2 ^ r := by
  apply Nat.eq_of_testBit_eq
  intro j
  rw [Nat.testBit_or, Nat.testBit_xor, Nat.testBit_two_pow]
  by_cases e : r = j
  · subst e; rw [h]; simp
  · simp [e]
/-- A step of 'above'. -/
theorem above_step {m : List Bool} {i : Nat} (hi : m[i]? = some true) {x : Nat} (hx : (wsOf (fillTo m i))[i / 64]? = some x) : (wsOf (fillTo m i)).set (i / 64) (x ||| 2 ^ (i % 64)) = wsOf (fillTo m (i + 1)) := by
  have hil := (List.getElem?_eq_some_iff.1 hi).1
  have h1 := fillTo_get hil
  have hb := (wsOf_is (fillTo m i)).bit _ _ hx (i % 64) (by omega)
  rw [show 64 * (i / 64) + i % 64 = i by omega, dgt_false.2 h1] at hb
  rw [or_xor hb]
  have h2 := ((wsOf_is (fillTo m i)).turn h1 hx).of
  rw [h2, fillTo_next hi]
  rfl
theorem above_stay {m : List Bool} {i : Nat} (hi : m[i]? = some false) : fillTo m i = fillTo m (i + 1) := by
  have hil := (List.getElem?_eq_some_iff.1 hi).1
  rw [fillTo_next hi]
  have h1 := fillTo_get hil
  obtain ⟨h2, h3⟩ := List.getElem?_eq_some_iff.1 h1
  conv => rhs; rw [← h3]
  exact (List.set_getElem_self h2).symm
set_option maxHeartbeats 4000000 in
set_option maxRecDepth 100000 in
theorem mabove_any (w : World) (base g n c : Nat) (l : List Nat) (h : w.ownsRow base 35 1 (.slice (some ⟨g, 0, none⟩) n c) n (w64s l)) (hn1 : 1 ≤ n) (hn2 : n ≤ 4096) (hlt : ∀ x ∈ l, x < 18446744073709551616) (L : Nat) (hL : L = (n + 63) / 64) :
    Calls Tryd.prog 26 #[.slice (some ⟨g, 0, none⟩) n c] w fun e w' => ∃ g2, e = .returned (.slice (some ⟨g2, 0, none⟩) L L) ∧ w'.ownsRow w.heap.size 35 1 (.slice (some ⟨g2, 0, none⟩) L L) L (w64s (wsOf (upB l))) ∧ Below w.heap.size w w' := by
  have hl : l.length = n := by have := h.1; simpa using this
  have HN := hid_of (mnoughts_any w n hn1 hn2 L hL)
  obtain ⟨T, hT⟩ : ∃ T, T = upB l := ⟨_, rfl⟩
  have hTl : T.length = n := by rw [hT, length_upB, hl]
  have HT : Hid (∀ i x, l[i]? = some x → T[i]? = some (decide (x = 18446744073709551615))) := fun i x hx => by rw [hT, upB_get, hx]; rfl
  have HTL := hid_of hTl
  have HR : Hid (∀ i, i < n → ∃ x, l[i]? = some x ∧ x < 18446744073709551616 ∧ w.cell? ⟨g, i, none⟩ = some (.int .u64 (x : Int))) := fun i hi => by
    obtain ⟨x, hx⟩ : ∃ x, l[i]? = some x := ⟨_, List.getElem?_eq_getElem (by omega)⟩
    exact ⟨x, hx, hlt x (List.mem_of_getElem? hx), (ws_cell h hx).1⟩
  have hgl := (World.ownsRow.lt h g rfl).2
  have HL := hid_of hL
  have HWL : Hid (∀ i, i ≤ n → (wsOf (fillTo T i)).length = L) := fun i hi => by rw [length_wsOf, length_fillTo (by omega), hTl, hL]
  have HN0 : Hid (noughtsL n = wsOf (fillTo T 0)) := by show _ = _; rw [fillTo_zero, hTl]; exact (noughts_is n).of
  rw [← hT]
  clear h hlt hl hT hTl hL
  go_enter Tryd.func26, Tryd.ntmps26
  go_wp2_with fail
  refine HN.out.mono ?_
  rintro e w1 ⟨g2, rfl, ho, hb⟩
  rw [HN0.out] at ho
  have HO := hid_of ho
  have HB := hid_of hb
  clear ho hb HN
  go_wp2_with fail
  go_loopw [4, 5, 11] (fun _ _ v wr => ∃ i : Nat, i ≤ n ∧ v = .int .i64 (i : Int) ∧ Hid (wr.ownsRow w.heap.size 35 1 (.slice (some ⟨g2, 0, none⟩) L L) L (w64s (wsOf (fillTo T i)))) ∧ Hid (Below w.heap.size w wr)) (fun _ _ v _ => n - (intOf v).toNat)
  case atStart => exact ⟨0, Nat.zero_le _, rfl, HO, HB⟩
  case round =>
    obtain ⟨i, hi, rfl, ho, hb⟩ := hrel
    by_cases hin : i < n
    · obtain ⟨x, hx, hx64, hc⟩ := HR.out i hin
      rw [← hb.out.cell (p := ⟨g, i, none⟩) hgl] at hc
      have hTi := HT.out i x hx
      by_cases hf : x = 18446744073709551615
      · rw [decide_eq_true hf] at hTi
        obtain ⟨q, hq⟩ : ∃ q, q = i / 64 := ⟨_, rfl⟩
        obtain ⟨r, hr⟩ : ∃ r, r = i % 64 := ⟨_, rfl⟩
        have hqL : q < L := by have := HL.out; omega
        obtain ⟨y, hy⟩ : ∃ y, (wsOf (fillTo T i))[q]? = some y := ⟨_, List.getElem?_eq_getElem (by rw [HWL.out i hi]; exact hqL)⟩
        obtain ⟨hcy, hfy⟩ := ws_cell ho.out hy
        have hy64 : y < 18446744073709551616 := (wsOf_is _).lt y (List.mem_of_getElem? hy)
        have hr64 : r < 64 := by omega
        obtain ⟨P, hP⟩ : ∃ P : Nat, P = 2 ^ r := ⟨_, rfl⟩
        obtain ⟨hp1, hp2⟩ := pow_int r hr64
        rw [← hP] at hp1 hp2
        have hP64 : P < 18446744073709551616 := by rw [hP]; exact Nat.pow_lt_pow_right (by decide) hr64
        obtain ⟨z, hz⟩ : ∃ z, z = y ||| P := ⟨_, rfl⟩
        have hor := bits_or_u64_nat y P hy64 hP64
        rw [← hz] at hor
        have HE : Hid ((wr.drew.setCell ⟨g2, q, none⟩ (.int .u64 (z : Int))).ownsRow w.heap.size 35 1 (.slice (some ⟨g2, 0, none⟩) L L) L (w64s (wsOf (fillTo T (i + 1))))) := by
          have hd : wr.drew.ownsRow w.heap.size 35 1 (.slice (some ⟨g2, 0, none⟩) L L) L (w64s (wsOf (fillTo T i))) := ownsRow_other ho.out (Kept.refl (fun _ => False) _).drew (fun _ _ h => h)
          have e := ws_set hd q z hqL
          rw [hz, hP, hr, hq, above_step hTi (by rw [← hq]; exact hy)] at e
          rw [hz, hP, hr, hq]
          exact e
        have HBE : Hid (Below w.heap.size w (wr.drew.setCell ⟨g2, q, none⟩ (.int .u64 (z : Int)))) := hb.out.drew.setCell (World.ownsRow.lt ho.out g2 rfl).1 _
        have hqI : (i : Int) / 64 = (q : Int) := by omega
        have hrI : (i : Int) % 64 = (r : Int) := by omega
        have hxb : ((x : Int) == 18446744073709551615) = true := by rw [hf]; rfl
        clear hx hx64 hTi hf hq hr hy hP hz hb ho
        go_wp2_with fail
        go_region
        all_goals
          go_wp2_with fail
          refine ⟨?_, by (simp [intOf]) <;> omega⟩
          first
            | exact ⟨i + 1, by omega, by go_num, HE, HBE⟩
            | ((repeat apply Exists.intro); refine ⟨?_, rfl⟩; exact ⟨i + 1, by omega, by go_num, HE, HBE⟩)
            | ((repeat apply Exists.intro); refine ⟨?_, rfl, rfl⟩; exact ⟨i + 1, by omega, by go_num, HE, HBE⟩)
      · rw [decide_eq_false hf] at hTi
        have HE : Hid (wr.ownsRow w.heap.size 35 1 (.slice (some ⟨g2, 0, none⟩) L L) L (w64s (wsOf (fillTo T (i + 1))))) := by show World.ownsRow _ _ _ _ _ _ _; rw [← above_stay hTi]; exact ho.out
        have hxb : ((x : Int) == 18446744073709551615) = false := beq_eq_false_iff_ne.2 (by omega)
        clear hx hx64 hTi hf ho
        go_wp2_with fail
        refine ⟨?_, by (simp [intOf]) <;> omega⟩
        first
          | exact ⟨i + 1, by omega, by go_num, HE, hb⟩
          | ((repeat apply Exists.intro); refine ⟨?_, rfl⟩; exact ⟨i + 1, by omega, by go_num, HE, hb⟩)
          | ((repeat apply Exists.intro); refine ⟨?_, rfl, rfl⟩; exact ⟨i + 1, by omega, by go_num, HE, hb⟩)
    · obtain rfl : i = n := by omega
      have HE : Hid (wr.ownsRow w.heap.size 35 1 (.slice (some ⟨g2, 0, none⟩) L L) L (w64s (wsOf T))) := by
        have e := ho.out
        rw [← HTL.out, fillTo_end] at e
        exact e
      clear ho
      go_wp2_with fail
      go_ret
      exact ⟨g2, rfl, HE.out, hb.out⟩

end Go.Proofs.YthbophecmpdpdaaDoor

/- The program's map: Level, Bytes. -/
namespace Go.Proofs.YthbophecmpdpdaaDoor
set_option linter.unusedVariables false
set_option linter.unusedSimpArgs false
open Go.RowKit Dg

theorem wsOf_none {m : List Bool} (h : wsOf m = []) : m = [] := by
  have h1 := length_wsOf m
  rw [h] at h1
  refine List.eq_nil_of_length_eq_zero ?_
  change 0 = _ at h1
  omega
theorem lvlOf_nil : ∀ (i : Nat) (m : List Bool), lvlOf i m = [] → lvlOf (i + 1) m = []
  | 0, m, h => by
    obtain rfl := wsOf_none h
    rfl
  | i + 1, m, h => by
    by_cases e : (wsOf m).length = 1
    · show (if _ then _ else _) = _; rw [if_pos e]
    · have h2 : lvlOf (i + 1) m = lvlOf i (upB (wsOf m)) := by show (if _ then _ else _) = _; rw [if_neg e]
      have h3 : lvlOf (i + 1 + 1) m = lvlOf (i + 1) (upB (wsOf m)) := by show (if _ then _ else _) = _; rw [if_neg e]
      rw [h3]
      exact lvlOf_nil i _ (by rw [← h2]; exact h)
theorem lvlOf_one : ∀ (i : Nat) (m : List Bool), (lvlOf i m).length = 1 → lvlOf (i + 1) m = []
  | 0, m, h => by
    show (if _ then _ else _) = _
    have : (wsOf m).length = 1 := h
    rw [if_pos this]
  | i + 1, m, h => by
    by_cases e : (wsOf m).length = 1
    · show (if _ then _ else _) = _; rw [if_pos e]
    · have h2 : lvlOf (i + 1) m = lvlOf i (upB (wsOf m)) := by show (if _ then _ else _) = _; rw [if_neg e]
      have h3 : lvlOf (i + 1 + 1) m = lvlOf (i + 1) (upB (wsOf m)) := by show (if _ then _ else _) = _; rw [if_neg e]
      rw [h3]
      exact lvlOf_one i _ (by rw [← h2]; exact h)
theorem lvlOf_stop {i : Nat} {m : List Bool} (h : (lvlOf i m).length = 1) : ∀ d, lvlOf (i + 1 + d) m = []
  | 0 => lvlOf_one i m h
  | d + 1 => lvlOf_nil _ _ (lvlOf_stop h d)
theorem lvlOf_lt : ∀ (i : Nat) (m : List Bool), ∀ x ∈ lvlOf i m, x < 18446744073709551616
  | 0, m, x, h => (wsOf_is m).lt x h
  | i + 1, m, x, h => by
    have e : lvlOf (i + 1) m = if (wsOf m).length = 1 then [] else lvlOf i (upB (wsOf m)) := rfl
    rw [e] at h
    split at h
    · cases h
    · exact lvlOf_lt i _ x h
set_option maxHeartbeats 4000000 in
set_option maxRecDepth 100000 in
theorem mlevel_is (w : World) (b g c : Nat) (m : List Bool) (h : MpIs w b g c m) (k : Int) (hk : I64 k) (T : List Nat) (hT : T = lvlZ k m) :
    Calls Tryd.prog 15 #[.pointer (some ⟨b, 0, none⟩), .int .i64 k] w fun e w' => ∃ v, e = .returned v ∧ OwnWs w' w.heap.size v T ∧ Below w.heap.size w w' := by
  obtain ⟨hk1, hk2⟩ := hk
  by_cases hneg : k < 0
  · have e : T = [] := by rw [hT]; unfold lvlZ; rw [if_pos hneg]
    subst e
    clear h hT
    go_enter Tryd.func15, Tryd.ntmps15
    go_wp2_with fail
    go_ret
    exact ⟨_, rfl, OwnWs.nil _ _, Below.refl _ _⟩
  · obtain ⟨K, rfl⟩ : ∃ K : Nat, k = (K : Int) := ⟨k.toNat, by omega⟩
    have hT' : T = lvlOf K m := by rw [hT]; unfold lvlZ; rw [if_neg hneg, Int.toNat_natCast]
    obtain ⟨-, c1⟩ := h.cell
    have hlen := h.len
    have HC := hid_of (mcw_any w g _ c (wsOf m) hlen.2.1 (by omega) h.ws)
    obtain ⟨L, hL⟩ : ∃ L, L = (wsOf m).length := ⟨_, rfl⟩
    rw [← hL] at c1 HC hlen
    obtain ⟨-, hL1, hL2, -⟩ := hlen
    have HT := hid_of hT'
    have HL := hid_of hL
    have hkb : decide ((K : Int) < 0) = false := decide_eq_false (by omega)
    have HA : Hid (∀ (W : World) (g n c : Nat) (l : List Nat), W.ownsRow w.heap.size 35 1 (.slice (some ⟨g, 0, none⟩) n c) n (w64s l) → 1 ≤ n → n ≤ 64 → (∀ x ∈ l, x < 18446744073709551616) →
        Calls Tryd.prog 26 #[.slice (some ⟨g, 0, none⟩) n c] W fun e w' => ∃ g2, e = .returned (.slice (some ⟨g2, 0, none⟩) 1 1) ∧ w'.ownsRow W.heap.size 35 1 (.slice (some ⟨g2, 0, none⟩) 1 1) 1 (w64s (wsOf (upB l))) ∧ Below W.heap.size W w') := fun W g n c l h1 h2 h3 h4 => mabove_any W w.heap.size g n c l h1 h2 (by omega) h4 1 (by omega)
    clear h hT hT' hL hneg
    go_enter Tryd.func15, Tryd.ntmps15
    go_wp2_with fail
    refine HC.out.mono ?_
    rintro e w1 ⟨g1, c2, rfl, ho, hb⟩
    have HO := hid_of ho
    have HB := hid_of hb
    clear ho hb HC
    go_wp2_with fail
    go_loopw [5, 14] (fun v i wr => ∃ (j g n c : Nat), j ≤ K ∧ i = .int .i64 (j : Int) ∧ v = .slice (some ⟨g, 0, none⟩) n c ∧ 1 ≤ n ∧ n ≤ 64 ∧ Hid (wr.ownsRow w.heap.size 35 1 (.slice (some ⟨g, 0, none⟩) n c) n (w64s (lvlOf j m))) ∧ Hid (Below w.heap.size w wr)) (fun _ i _ => K - (intOf i).toNat)
    case atStart => exact ⟨0, g1, L, c2, Nat.zero_le _, rfl, rfl, hL1, hL2, HO, HB⟩
    case round =>
      obtain ⟨j, gj, n, cj, hj, rfl, rfl, hn1, hn2, ho, hb⟩ := hrel
      have hl : (lvlOf j m).length = n := by have := ho.out.1; simpa using this
      by_cases hjK : j < K
      · by_cases hn : n = 1
        · have hTe : T = [] := by
            rw [HT.out, show K = j + 1 + (K - (j + 1)) by omega]
            exact lvlOf_stop (by rw [hl, hn]) _
          subst hTe
          subst hn
          clear hl ho
          go_wp2_with fail
          go_ret
          exact ⟨_, rfl, OwnWs.nil _ _, hb.out⟩
        · have hnx : lvlOf (j + 1) m = wsOf (upB (lvlOf j m)) := lvlOf_next j m (by omega)
          have HAJ := hid_of (HA.out wr gj n cj _ ho.out hn1 hn2 (lvlOf_lt j m))
          rw [← hnx] at HAJ
          have hnb : ((n : Int) == 1) = false := beq_eq_false_iff_ne.2 (by omega)
          have hbs := hb.out.size
          clear hl ho hn hnx
          go_wp2_with fail
          refine HAJ.out.mono ?_
          rintro e w2 ⟨g2, rfl, ho2, hb2⟩
          have HO2 : Hid (w2.ownsRow w.heap.size 35 1 (.slice (some ⟨g2, 0, none⟩) 1 1) 1 (w64s (lvlOf (j + 1) m))) := ownsRow_base ho2 hbs
          have HB2 : Hid (Below w.heap.size w w2) := hb.out.trans (hb2.mono hbs)
          clear ho2 hb2 HAJ
          go_wp2_with fail
          refine ⟨?_, by (simp [intOf]) <;> omega⟩
          first
            | exact ⟨j + 1, g2, 1, 1, by omega, by go_num, rfl, by omega, by omega, HO2, HB2⟩
            | ((repeat apply Exists.intro); refine ⟨?_, rfl⟩; exact ⟨j + 1, g2, 1, 1, by omega, by go_num, rfl, by omega, by omega, HO2, HB2⟩)
      · obtain rfl : j = K := by omega
        have HE : Hid (OwnWs wr w.heap.size (.slice (some ⟨gj, 0, none⟩) n cj) T) := by show World.ownsRow _ _ _ _ _ _ _; rw [HT.out, hl]; exact ho.out
        clear hl ho
        go_wp2_with fail
        go_ret
        exact ⟨_, rfl, HE.out, hb.out⟩

theorem below_kept {w w' : World} (hb : Below w.heap.size w w') : Kept (fun i => w.heap.size ≤ i) w w' := ⟨hb.os, hb.tape, hb.output, hb.size, fun i _ hf => hb.block i (by omega)⟩
theorem made_u8 (n : Nat) : (madeCells (Value.int .u8 0).cells (n * 1)).toList = u8s (List.replicate n 0) := by
  apply List.ext_getElem?
  intro k
  by_cases hk : k < n
  · simp [madeCells, u8s, hk, Value.cells, Nat.mod_one]
  · rw [List.getElem?_eq_none (by simp [madeCells]; omega), List.getElem?_eq_none (by simp; omega)]
theorem shr_int (r : Nat) : (128 : Int) / 2 ^ r = ((128 / 2 ^ r : Nat) : Int) := by rw [← pow_cast]; rfl
set_option maxHeartbeats 4000000 in
set_option maxRecDepth 100000 in
theorem mbytes_is (w : World) (b g c : Nat) (m : List Bool) (h : MpIs w b g c m) (T : List Nat) (hT : T = bytesTo m m.length) :
    Calls Tryd.prog 34 #[.pointer (some ⟨b, 0, none⟩)] w fun e w' => ∃ v, e = .returned v ∧ OwnBytes w' w.heap.size v T ∧ Below w.heap.size w w' := by
  obtain ⟨i0, hi, hz0, hz1, hz2⟩ := info_parts Tryd.info5
  obtain ⟨c0, -⟩ := h.cell
  have hle := h.le
  have H0 := hid_of h
  have hbl := h.lt.1
  obtain ⟨n, hn⟩ : ∃ n, n = m.length := ⟨_, rfl⟩
  rw [← hn] at c0 hle hT
  have HN := hid_of hn
  obtain ⟨B, hB⟩ : ∃ B, B = (n + 7) / 8 := ⟨_, rfl⟩
  have hBI : ((n : Int) + 7) / 8 = (B : Int) := by omega
  have hB2 : B ≤ 1000 := by omega
  have HBL : Hid (∀ i, (bytesTo m i).length = B) := fun i => by rw [length_bytesTo, ← hn, hB]
  have HBE := hid_of hB
  have HT := hid_of hT
  obtain ⟨Z, hZ⟩ : ∃ Z, Z = madeCells (Value.int .u8 0).cells (B * i0.size) := ⟨_, rfl⟩
  have hmk : ∀ W : World, (Instr.makeSlice 55 (.int .i64 (B : Int)) (.int .i64 (B : Int))).run Tryd.prog W = .ok (.slice (some ⟨W.heap.size, 0, none⟩) B B) (W.alloc (.cells Z 5)) := by
    intro W
    have h := run_make (P := Tryd.prog) W 55 5 i0 (.int .u8 0) Tryd.underlying55 hi hz0 .i64 .i64 B B (by omega) (by omega) (by rw [hz2]; omega) (by omega)
    simp only [Int.toNat_natCast] at h
    rw [hZ]
    exact h
  have HO0 : Hid ((w.alloc (.cells Z 5)).ownsRow w.heap.size 5 1 (.slice (some ⟨w.heap.size, 0, none⟩) B B) B (u8s (bytesTo m 0))) := by
    have e : bytesTo m 0 = List.replicate B 0 := by show List.replicate _ 0 = _; rw [← hn, hB]
    show World.ownsRow _ _ _ _ _ _ _
    rw [e]
    exact own_new w w.heap.size Z B (List.replicate B 0) (by rw [hZ, hz1]; exact made_u8 B) (by simp) (by omega) (Nat.le_refl _)
  have HB0 : Hid (Below w.heap.size w (w.alloc (.cells Z 5))) := (Below.refl _ _).alloc (Nat.le_refl _) _
  have c0' : (w.alloc (.cells Z 5)).cell? ⟨b, 0, none⟩ = some (.int .i64 (n : Int)) := (HB0.out.cell (p := ⟨b, 0, none⟩) hbl).trans c0
  have HM : Hid (∀ W : World, Below w.heap.size w W → MpIs W b g c m) := fun W hW => by
    have h1 := h.lt
    have h2 := h.tab.lt
    exact h.kept (below_kept hW) (by omega) (by omega) (by omega)
  clear h hn hB hT hZ
  go_enter Tryd.func34, Tryd.ntmps34
  go_wp2_with fail
  go_loopw [4, 16] (fun _ v wr => ∃ i : Nat, i ≤ n ∧ v = .int .i64 (i : Int) ∧ Hid (wr.ownsRow w.heap.size 5 1 (.slice (some ⟨w.heap.size, 0, none⟩) B B) B (u8s (bytesTo m i))) ∧ Hid (Below w.heap.size w wr)) (fun _ v _ => n - (intOf v).toNat)
  case atStart => exact ⟨0, Nat.zero_le _, rfl, HO0, HB0⟩
  case round =>
    obtain ⟨i, hi, rfl, ho, hb⟩ := hrel
    clear hBI
    by_cases hin : i < n
    · obtain ⟨y, hy⟩ : ∃ y, m[i]? = some y := ⟨_, List.getElem?_eq_getElem (by rw [← HN.out]; exact hin)⟩
      have HU := hid_of (mused_is wr b g c m (HM.out wr hb.out) (i : Int) ⟨by omega, by omega⟩ y (by rw [usedZ_nat]; unfold dgt; rw [hy]; rfl))
      cases y
      · have HE : Hid (wr.ownsRow w.heap.size 5 1 (.slice (some ⟨w.heap.size, 0, none⟩) B B) B (u8s (bytesTo m (i + 1)))) := by
          have e : bytesTo m (i + 1) = bytesTo m i := by show (if _ then _ else _) = _; rw [if_neg (by rw [hy]; decide)]
          show World.ownsRow _ _ _ _ _ _ _
          rw [e]; exact ho.out
        clear hy ho
        go_wp2_with (go_at_call 16; refine HU.out.mono ?_; rintro e w1 ⟨rfl, rfl⟩)
        refine ⟨?_, by (simp [intOf]) <;> omega⟩
        first
          | exact ⟨i + 1, by omega, by go_num, HE, hb⟩
          | ((repeat apply Exists.intro); refine ⟨?_, rfl⟩; exact ⟨i + 1, by omega, by go_num, HE, hb⟩)
      · obtain ⟨q, hq⟩ : ∃ q, q = i / 8 := ⟨_, rfl⟩
        obtain ⟨r, hr⟩ : ∃ r, r = i % 8 := ⟨_, rfl⟩
        have hqB : q < B := by have := HBE.out; omega
        obtain ⟨x, hx⟩ : ∃ x, (bytesTo m i)[q]? = some x := ⟨_, List.getElem?_eq_getElem (by rw [HBL.out]; exact hqB)⟩
        have hx256 := bytesTo_lt m i x (List.mem_of_getElem? hx)
        obtain ⟨hcx, hfx⟩ := own_cell ho.out hx
        obtain ⟨P, hP⟩ : ∃ P : Nat, P = 128 / 2 ^ r := ⟨_, rfl⟩
        have hPI : (128 : Int) / 2 ^ r = (P : Int) := by rw [hP]; exact shr_int r
        have hP256 : P < 256 := by rw [hP]; exact Nat.lt_of_le_of_lt (Nat.div_le_self _ _) (by decide)
        obtain ⟨z, hz⟩ : ∃ z, z = x ||| P := ⟨_, rfl⟩
        have hor := u8_or_nat x P hx256 hP256
        rw [← hz] at hor
        have HE : Hid ((wr.drew.setCell ⟨w.heap.size, q, none⟩ (.int .u8 (z : Int))).ownsRow w.heap.size 5 1 (.slice (some ⟨w.heap.size, 0, none⟩) B B) B (u8s (bytesTo m (i + 1)))) := by
          have hd : wr.drew.ownsRow w.heap.size 5 1 (.slice (some ⟨w.heap.size, 0, none⟩) B B) B (u8s (bytesTo m i)) := ownsRow_other ho.out (Kept.refl (fun _ => False) _).drew (fun _ _ h => h)
          have e := ownsRow_set hd q hqB (.int .u8 (z : Int))
          rw [u8s_set] at e
          have e2 : bytesTo m (i + 1) = (bytesTo m i).set q z := by
            show (if _ then _ else _) = _
            rw [if_pos hy, hz, hP, hr, hq, List.getD_eq_getElem?_getD, ← hq, hx]; rfl
          show World.ownsRow _ _ _ _ _ _ _
          rw [e2]; exact e
        have HBE2 : Hid (Below w.heap.size w (wr.drew.setCell ⟨w.heap.size, q, none⟩ (.int .u8 (z : Int)))) := hb.out.drew.setCell (Nat.le_refl _) _
        have hqI : (i : Int) / 8 = (q : Int) := by omega
        have hrI : (i : Int) % 8 = (r : Int) := by omega
        have hr8 : r < 8 := by omega
        clear hy hq hr hx hP hz hb ho
        go_wp2_with (go_at_call 16; refine HU.out.mono ?_; rintro e w1 ⟨rfl, rfl⟩)
        go_region
        all_goals
          go_wp2_with fail
          refine ⟨?_, by (simp [intOf]) <;> omega⟩
          first
            | exact ⟨i + 1, by omega, by go_num, HE, HBE2⟩
            | ((repeat apply Exists.intro); refine ⟨?_, rfl⟩; exact ⟨i + 1, by omega, by go_num, HE, HBE2⟩)
    · obtain rfl : i = n := by omega
      have HE : Hid (OwnBytes wr w.heap.size (.slice (some ⟨w.heap.size, 0, none⟩) B B) T) := by
        show World.ownsRow _ _ _ _ _ _ _
        rw [HT.out, HBL.out]; exact ho.out
      clear ho
      go_wp2_with fail
      go_ret
      exact ⟨_, rfl, HE.out, hb.out⟩

end Go.Proofs.YthbophecmpdpdaaDoor

/- A map that a law made; the document's example. -/
namespace Go.Proofs.YthbophecmpdpdaaDoor
set_option linter.unusedVariables false
set_option linter.unusedSimpArgs false
open Go.RowKit Dg

/-- A map that was made behind W. -/
structure MpO (W w : World) (b g c : Nat) (m : List Bool) : Prop where
  is : MpIs w b g c m
  hb : W.heap.size ≤ b
  hg : W.heap.size ≤ g
  bel : Below W.heap.size W w
theorem MpO.draws {W w : World} {b g c : Nat} {m : List Bool} (h : MpO W w b g c m) (k : Nat) : MpO W (w.drewN k) b g c m :=
  ⟨h.is.kept (X := fun _ => False) ⟨rfl, rfl, rfl, Nat.le_refl _, fun _ _ _ => rfl⟩ (fun h => h) (fun h => h) (fun h => h), h.hb, h.hg, below_drewN h.bel k⟩
theorem MpO.drew {W w : World} {b g c : Nat} {m : List Bool} (h : MpO W w b g c m) : MpO W w.drew b g c m := h.draws 1
theorem MpO.newer {W w w' : World} {b g c : Nat} {m : List Bool} (h : MpO W w b g c m) (hb : Below w.heap.size w w') : MpO W w' b g c m := by
  have h1 := h.is.lt
  have h2 := h.is.tab.lt
  exact ⟨h.is.kept (below_kept hb) (by omega) (by omega) (by omega), h.hb, h.hg, h.bel.trans (hb.mono h.bel.size)⟩
theorem MpO.turned {W w w' : World} {b g c : Nat} {m m' : List Bool} (h : MpO W w b g c m) (h' : MpIs w' b g c m') (hk : Kept (fun k => k = g) w w') : MpO W w' b g c m' :=
  ⟨h', h.hb, h.hg, h.bel.trans ⟨hk.os, hk.tape, hk.output, hk.size, fun k hkb => hk.block k (by have := h.bel.size; omega) (by have := h.hg; omega)⟩⟩
theorem mo_new (W w : World) (hT : Tab w) (hW : Below W.heap.size W w) (n : Nat) (h1 : 1 ≤ n) (h2 : n ≤ 4096) :
    Calls Tryd.prog 8 #[.int .i64 (n : Int)] w fun e w' => ∃ b g c, e = .returned (.tuple #[.pointer (some ⟨b, 0, none⟩), .int .i64 0]) ∧ MpO W w' b g c (List.replicate n false) ∧ Below w.heap.size w w' ∧ w.heap.size ≤ b ∧ w.heap.size ≤ g := by
  refine (mnew_any w hT n h1 h2).mono ?_
  rintro e w' ⟨b, g, c, e1, e2, e3, e4, e5⟩
  have := hW.size
  exact ⟨b, g, c, e1, ⟨e2, by omega, by omega, hW.trans (e5.mono this)⟩, e5, e3, e4⟩
theorem mo_set {W w : World} {b g c : Nat} {m : List Bool} (h : MpO W w b g c m) (i : Int) (hi : I64 i) (u : Bool) (R : Bool) (hR : R = setsB m i u) (m2 : List Bool) (hm2 : m2 = setM m i u) :
    Calls Tryd.prog 12 #[.pointer (some ⟨b, 0, none⟩), .int .i64 i, .bool u] w fun e w' => e = .returned (.bool R) ∧ MpO W w' b g c m2 := by
  refine (mset_is w b g c m h.is i hi u R hR m2 hm2).mono ?_
  rintro e w' ⟨e1, e2, e3⟩
  exact ⟨e1, h.turned e2 e3⟩
theorem mo_take {W w : World} {b g c : Nat} {m : List Bool} (h : MpO W w b g c m) (R : Int) (hR : IsFirst m 0 R) (m2 : List Bool) (hm2 : m2 = if 0 ≤ R then m.set R.toNat true else m) :
    Calls Tryd.prog 10 #[.pointer (some ⟨b, 0, none⟩)] w fun e w' => e = .returned (.int .i64 R) ∧ MpO W w' b g c m2 := by
  refine (mtake_is w b g c m h.is R hR m2 hm2).mono ?_
  rintro e w' ⟨e1, e2, e3⟩
  exact ⟨e1, h.turned e2 e3⟩
theorem mo_count {W w : World} {b g c : Nat} {m : List Bool} (h : MpO W w b g c m) (x : Nat) (hx : x = usedN m m.length) :
    Calls Tryd.prog 13 #[.pointer (some ⟨b, 0, none⟩)] w fun e w' => e = .returned (.int .i64 (x : Int)) ∧ MpO W w' b g c m ∧ ∃ k, w' = w.drewN k := by
  refine (mcount_is w b g c m h.is x hx).mono ?_
  rintro e w' ⟨e1, k, rfl⟩
  exact ⟨e1, h.draws k, k, rfl⟩
set_option maxRecDepth 100000 in
set_option maxHeartbeats 4000000 in
theorem wakes11_any (w : World) (hT : Tab w) :
    Calls Tryd.prog 14 #[] w fun e w' => e = .returned (.bool true) ∧ Below w.heap.size w w' := by
  have HN := hid_of (mo_new w w hT (Below.refl _ _) 3 (by decide) (by decide))
  have HI0 : Hid (IsFirst (List.replicate 3 false) 0 0) := .inl ⟨0, rfl, by decide, by decide, fun j _ h => absurd h (Nat.not_lt_zero _)⟩
  have HI1 : Hid (IsFirst [true, false, false] 0 1) := .inl ⟨1, rfl, by decide, by decide, fun j _ h => by
    obtain rfl : j = 0 := by omega
    decide⟩
  go_enter Tryd.func14, Tryd.ntmps14
  go_wp2_with fail
  refine HN.out.mono ?_
  rintro e w1 ⟨b, g, c, rfl, ho, -, -, -⟩
  have HO := hid_of ho
  clear ho HN
  go_wp2_with fail
  refine (mo_take HO.out 0 HI0.out [true, false, false] (by decide)).mono ?_
  rintro e w2 ⟨rfl, ho⟩
  have HO2 := hid_of ho
  clear ho HO
  go_wp2_with fail
  refine (mo_take HO2.out 1 HI1.out [true, true, false] (by decide)).mono ?_
  rintro e w3 ⟨rfl, ho⟩
  have HO3 := hid_of ho
  clear ho HO2
  go_wp2_with fail
  refine (mo_count HO3.out 2 (by decide)).mono ?_
  rintro e w4 ⟨rfl, ho, -⟩
  have HO4 := hid_of ho
  clear ho HO3
  go_wp2_with fail
  go_ret
  exact ⟨rfl, HO4.out.bel⟩

end Go.Proofs.YthbophecmpdpdaaDoor

/- The library's table as a row lists it; a start that meets the condition. -/
namespace Go.Proofs.YthbophecmpdpdaaDoor
set_option linter.unusedVariables false
set_option linter.unusedSimpArgs false
open Go.ChangeShapes Go.WideShapes Go.ChangeAt Go.RowKit Go.Deep

def doorL : List (String × DataW Unit) := [("math/bits.deBruijn64tab", Rows.laid_math_bits_deBruijn64tab)]
set_option maxRecDepth 100000 in
theorem door_met (os : Os) (args : Array Value) : laidMetH Tryd.prog doorL ((World.doorLaid Tryd.prog 400 os).forCall (fun _ _ => 0) ⟨#[], args, []⟩).memory :=
  laidMetH_of_parts3 (fuel := 8) (laidMet_of_run' 8 (by kernel_rfl) (by kernel_rfl)) (by kernel_rfl) (by kernel_rfl)
theorem door_glob : Tryd.prog.globalNamed "math/bits.deBruijn64tab" = some 0 := by kernel_rfl
theorem door_type : (Tryd.prog.globals[0]?).map (·.type) = some 59 := by kernel_rfl
theorem door_one : Tryd.prog.cellsOf 5 = 1 := by kernel_rfl
theorem door_all : Tryd.prog.cellsOf 59 = 64 := by kernel_rfl
theorem tab_of_laid {W : World} (h : laidMetH Tryd.prog doorL W) : Tab W := by
  rw [MakeChecks.laidMetH_plain _ _ _ (by kernel_rfl)] at h
  have h2 : laidMet Tryd.prog (("math/bits.deBruijn64tab", Lib.tabData .u8 (Lib.deBruijn64tab.map fun n : Nat => (n : Int))) :: []) W := h
  have h3 := Lib.tabIs_of_head door_glob door_type Tryd.underlying59 Tryd.underlying5 door_one door_all h2
  intro j hj
  have h4 := h3.cell door_glob j (by rw [List.length_map]; exact hj)
  rw [h4]
  congr 2
  rw [List.getD_eq_getElem?_getD, List.getD_eq_getElem?_getD, List.getElem?_map]
  cases Lib.deBruijn64tab[j]? <;> rfl

end Go.Proofs.YthbophecmpdpdaaDoor

/- The document's map: how many are used; the first one; a run. -/
namespace Go.Proofs.YthbophecmpdpdaaDoor
set_option linter.unusedVariables false
set_option linter.unusedSimpArgs false
open Go.RowKit Dg

set_option maxRecDepth 100000 in
set_option maxHeartbeats 4000000 in
theorem rmcount_any (w : World) (a : Option Addr) (n cap : Nat) (m : List Bool) (h : BlAt w a m) (hn : m.length = n) (hn2 : n ≤ 4096) (x : Nat) (hx : x = usedN m n) :
    Calls Tryd.prog 30 #[.slice a n cap] w fun e w' => e = .returned (.int .i64 (x : Int)) ∧ w = w' := by
  have H := hid_of h
  have HN := hid_of hn
  have HX := hid_of hx
  clear h hn hx
  go_enter Tryd.func30, Tryd.ntmps30
  go_wp2_with fail
  go_loopw [3, 7] (fun c v wr => ∃ i : Nat, i ≤ n ∧ v = .int .i64 (i : Int) ∧ c = .int .i64 (usedN m i : Nat) ∧ wr = w) (fun _ v _ => n - (intOf v).toNat)
  case atStart => exact ⟨0, Nat.zero_le _, rfl, rfl, rfl⟩
  case round =>
    obtain ⟨i, hi, rfl, rfl, rfl⟩ := hrel
    obtain ⟨u, hu⟩ : ∃ u, u = usedN m i := ⟨_, rfl⟩
    have hu2 : u ≤ 4096 := by rw [hu]; exact Nat.le_trans (usedN_le m i) (by omega)
    by_cases hin : i < n
    · obtain ⟨b, hb⟩ : ∃ b, m[i]? = some b := ⟨_, List.getElem?_eq_getElem (by rw [HN.out]; exact hin)⟩
      obtain ⟨bb, ob, rfl, hc⟩ := H.out i b hb
      cases b
      · have HNX : Hid (usedN m (i + 1) = u) := by show usedN m i + _ = _; rw [hb, hu]; rfl
        rw [← hu]
        clear hu hb
        go_wp2_with fail
        refine ⟨?_, by (simp [intOf]) <;> omega⟩
        first
          | exact ⟨i + 1, by omega, by go_num, by rw [HNX.out], by first | rfl | trivial⟩
          | ((repeat apply Exists.intro); exact ⟨i + 1, by omega, by go_num, by rw [HNX.out], by first | rfl | trivial⟩)
      · have HNX : Hid (usedN m (i + 1) = u + 1) := by show usedN m i + _ = _; rw [hb, hu]; rfl
        rw [← hu]
        clear hu hb
        go_wp2_with fail
        refine ⟨?_, by (simp [intOf]) <;> omega⟩
        first
          | exact ⟨i + 1, by omega, by go_num, by rw [HNX.out]; go_num, by first | rfl | trivial⟩
          | ((repeat apply Exists.intro); exact ⟨i + 1, by omega, by go_num, by rw [HNX.out]; go_num, by first | rfl | trivial⟩)
    · obtain rfl : i = n := by omega
      rw [← HX.out]
      clear hu hu2
      go_wp2_with fail
      go_ret
      exact ⟨rfl, rfl⟩

set_option maxRecDepth 100000 in
set_option maxHeartbeats 4000000 in
theorem rmfirst_any (w : World) (a : Option Addr) (n cap : Nat) (m : List Bool) (h : BlAt w a m) (hn : m.length = n) (hn2 : n ≤ 4096) (f : Int) (hf : I64 f) (r : Int) (hr : IsFirst m f r) :
    Calls Tryd.prog 31 #[.slice a n cap, .int .i64 f] w fun e w' => e = .returned (.int .i64 r) ∧ w = w' := by
  obtain ⟨hf1, hf2⟩ := hf
  have H := hid_of h
  have HN := hid_of hn
  have HR := hid_of hr
  obtain ⟨f0, hf0⟩ : ∃ f0 : Nat, (f0 : Int) = max f 0 := ⟨f.toNat, by omega⟩
  have hr0 : IsFirst m (f0 : Int) r := by
    rcases hr with ⟨k, h1, h2, h3, h4⟩ | ⟨h1, h2⟩
    · exact .inl ⟨k, h1, by omega, h3, fun j e1 e2 => h4 j (by omega) e2⟩
    · exact .inr ⟨h1, fun j e => h2 j (by omega)⟩
  have HR := hid_of hr0
  have hcase : (f = (f0 : Int)) ∨ (f < 0 ∧ f0 = 0) := by omega
  have hf00 : (f0 : Int) ≤ 9223372036854775807 := by omega
  clear h hn hr hf0 hr0
  rcases hcase with rfl | ⟨hneg, hf0e⟩
  rotate_left
  have HE := hid_of hf0e
  clear hf0e
  rotate_left
  all_goals
    go_enter Tryd.func31, Tryd.ntmps31
    go_wp2_with fail
    go_loopw [5] (fun v wr => ∃ i : Nat, f0 ≤ i ∧ (i : Int) ≤ 9223372036854775807 ∧ v = .int .i64 (i : Int) ∧ Hid (∀ j : Nat, f0 ≤ j → j < i → m[j]? ≠ some false) ∧ wr = w) (fun v _ => n - (intOf v).toNat)
    case atStart =>
      first
        | exact ⟨f0, Nat.le_refl _, hf00, rfl, fun j h1 h2 => absurd h2 (by omega), rfl⟩
        | exact ⟨f0, Nat.le_refl _, hf00, by rw [HE.out]; rfl, fun j h1 h2 => absurd h2 (by omega), rfl⟩
    case round =>
      obtain ⟨i, hfi, hi9, rfl, hlo, rfl⟩ := hrel
      by_cases hin : i < n
      · obtain ⟨b, hb⟩ : ∃ b, m[i]? = some b := ⟨_, List.getElem?_eq_getElem (by rw [HN.out]; exact hin)⟩
        obtain ⟨bb, ob, rfl, hc⟩ := H.out i b hb
        cases b
        · have hri : r = (i : Int) := (HR.out).one (.inl ⟨i, rfl, by omega, hb, fun j h1 h2 => hlo.out j (by omega) h2⟩)
          clear hb
          subst hri
          go_wp2_with fail
          go_ret
          exact ⟨rfl, rfl⟩
        · have HLO : Hid (∀ j : Nat, f0 ≤ j → j < i + 1 → m[j]? ≠ some false) := fun j h1 h2 => by
            by_cases e : j = i
            · rw [e, hb]; exact fun h => by cases h
            · exact hlo.out j h1 (by omega)
          clear hb
          go_wp2_with fail
          refine ⟨?_, by (simp [intOf]) <;> omega⟩
          first
            | exact ⟨i + 1, by omega, by omega, by go_num, HLO, by first | rfl | trivial⟩
            | ((repeat apply Exists.intro); exact ⟨i + 1, by omega, by omega, by go_num, HLO, by first | rfl | trivial⟩)
      · have hbn : decide ((i : Int) < (n : Int)) = false := decide_eq_false (by omega)
        have hbn2 : decide (i < n) = false := decide_eq_false hin
        have hri : r = -1 := (HR.out).one (.inr ⟨rfl, fun j h1 => by
          by_cases e : j < i
          · exact hlo.out j (by omega) e
          · rw [List.getElem?_eq_none (by rw [HN.out]; omega)]; exact fun h => by cases h⟩)
        subst hri
        go_wp2_with fail
        go_ret
        exact ⟨rfl, rfl⟩

end Go.Proofs.YthbophecmpdpdaaDoor

/- The document's map: a run. -/
namespace Go.Proofs.YthbophecmpdpdaaDoor
set_option linter.unusedVariables false
set_option linter.unusedSimpArgs false
open Go.RowKit Dg

set_option maxRecDepth 100000 in
set_option maxHeartbeats 4000000 in
theorem rmrun_any (w : World) (a : Option Addr) (n cap : Nat) (m : List Bool) (h : BlAt w a m) (hn : m.length = n) (hn2 : n ≤ 4096) (q : Int) (hq : I64 q) (r : Int) (hr : IsRun m q r) :
    Calls Tryd.prog 32 #[.slice a n cap, .int .i64 q] w fun e w' => e = .returned (.int .i64 r) ∧ w = w' := by
  obtain ⟨hq1, hq2⟩ := hq
  have H := hid_of h
  have HN := hid_of hn
  have HR := hid_of hr
  rcases (by omega : q < 1 ∨ (n : Int) < q ∨ (1 ≤ q ∧ q ≤ (n : Int))) with hlo | hhi | ⟨hlo, hhi⟩
  · have hri : r = -1 := hr.one (.inr ⟨rfl, .inl hlo⟩)
    subst hri
    have hb1 : decide (1 ≤ q) = false := decide_eq_false (by omega)
    clear h hn hr
    go_enter Tryd.func32, Tryd.ntmps32
    go_wp2_with fail
    go_loopw [5] (fun v wr => v = .int .i64 0 ∧ wr = w) (fun v _ => 0)
    case atStart => exact ⟨rfl, rfl⟩
    case round =>
      obtain ⟨rfl, rfl⟩ := hrel
      go_wp2_with fail
      go_ret
      exact ⟨rfl, rfl⟩
  · obtain ⟨l, hl⟩ : ∃ l : Nat, q = (l : Int) := ⟨q.toNat, by omega⟩
    subst hl
    have hri : r = -1 := hr.one (.inr ⟨rfl, .inr ⟨l, rfl, fun i hf => by have := hf.le (by omega); omega⟩⟩)
    subst hri
    have hb1 : decide (1 ≤ l) = true := decide_eq_true (by omega)
    have hb2 : decide (l ≤ n) = false := decide_eq_false (by omega)
    clear h hn hr
    go_enter Tryd.func32, Tryd.ntmps32
    go_wp2_with fail
    go_loopw [5] (fun v wr => v = .int .i64 0 ∧ wr = w) (fun v _ => 0)
    case atStart => exact ⟨rfl, rfl⟩
    case round =>
      obtain ⟨rfl, rfl⟩ := hrel
      go_wp2_with fail
      go_ret
      exact ⟨rfl, rfl⟩
  · obtain ⟨l, hl⟩ : ∃ l : Nat, q = (l : Int) := ⟨q.toNat, by omega⟩
    subst hl
    have hl1 : 1 ≤ l := by omega
    have hln : l ≤ n := by omega
    clear h hn hr hlo hhi hq1 hq2
    go_enter Tryd.func32, Tryd.ntmps32
    go_wp2_with fail
    go_loopw [5] (fun v wr => ∃ i : Nat, i + l ≤ n + 1 ∧ v = .int .i64 (i : Int) ∧ Hid (∀ j, j < i → ¬ FreeAt m j l) ∧ wr = w) (fun v _ => n + 1 - (intOf v).toNat)
    case atStart => exact ⟨0, by omega, rfl, fun j hj => absurd hj (Nat.not_lt_zero j), rfl⟩
    case round =>
      obtain ⟨i, hi, rfl, hlo, rfl⟩ := hrel
      by_cases hin : i + l ≤ n
      · obtain ⟨e, he⟩ : ∃ e : Nat, e = i + l := ⟨_, rfl⟩
        have hie : (i : Int) + (l : Int) = (e : Int) := by omega
        have hen : e ≤ n := by omega
        have HE := hid_of he
        clear he
        go_wp2_with fail
        go_loopw [6, 7] (fun ok v ws => ∃ (t k : Nat) (b : Bool), t ≤ l ∧ Hid (k = i + t) ∧ k ≤ e ∧ ok = .bool b ∧ v = .int .i64 (k : Int) ∧ Hid (b = true ↔ FreeAt m i t) ∧ ws = wr) (fun _ v _ => e - (intOf v).toNat)
        case atStart => exact ⟨0, i, true, Nat.zero_le _, rfl, by have := HE.out; omega, rfl, rfl, ⟨fun _ j hj => absurd hj (Nat.not_lt_zero j), fun _ => rfl⟩, rfl⟩
        case round =>
          obtain ⟨t, k, b, htl, hk, hke, rfl, rfl, hb, rfl⟩ := hrel
          by_cases hkt : k < e
          · obtain ⟨y, hy⟩ : ∃ y, m[k]? = some y := ⟨_, List.getElem?_eq_getElem (by rw [HN.out]; omega)⟩
            obtain ⟨bb, ob, rfl, hc⟩ := H.out k y hy
            have ht : t < l := by have := HE.out; have := hk.out; omega
            have hnext : ∀ c : Bool, (c = true ↔ (b = true ∧ y = false)) → (c = true ↔ FreeAt m i (t + 1)) := fun c hcc => by
              rw [hcc]
              constructor
              · rintro ⟨h1, h2⟩ j hj
                by_cases e' : j = t
                · rw [e', ← hk.out, hy, h2]
                · exact (hb.out.1 h1) j (by omega)
              · intro hf
                refine ⟨hb.out.2 (fun j hj => hf j (by omega)), ?_⟩
                have := hf t (by omega)
                rw [← hk.out, hy] at this
                exact Option.some.inj this
            have HNX := hid_of hnext
            have HK1 : Hid (k + 1 = i + (t + 1)) := by show _ = _; have := hk.out; omega
            clear hnext hy
            cases b
            · have HB : Hid (false = true ↔ FreeAt m i (t + 1)) := HNX.out false ⟨fun h => Bool.noConfusion h, fun h => Bool.noConfusion h.1⟩
              clear HNX
              go_wp2_with fail
              refine ⟨?_, by (simp [intOf]) <;> omega⟩
              first
                | exact ⟨t + 1, k + 1, false, by omega, HK1, by omega, rfl, by go_num, HB, by first | rfl | trivial⟩
                | ((repeat apply Exists.intro); exact ⟨by omega, HK1, by omega, by first | rfl | trivial, by go_num, HB, by first | rfl | trivial⟩)
            · cases y
              · have HB : Hid (true = true ↔ FreeAt m i (t + 1)) := HNX.out true ⟨fun h => ⟨rfl, rfl⟩, fun h => rfl⟩
                clear HNX
                go_wp2_with fail
                refine ⟨?_, by (simp [intOf]) <;> omega⟩
                first
                  | exact ⟨t + 1, k + 1, true, by omega, HK1, by omega, rfl, by go_num, HB, by first | rfl | trivial⟩
                  | ((repeat apply Exists.intro); exact ⟨by omega, HK1, by omega, by first | rfl | trivial, by go_num, HB, by first | rfl | trivial⟩)
              · have HB : Hid (false = true ↔ FreeAt m i (t + 1)) := HNX.out false ⟨fun h => Bool.noConfusion h, fun h => Bool.noConfusion h.2⟩
                clear HNX
                go_wp2_with fail
                refine ⟨?_, by (simp [intOf]) <;> omega⟩
                first
                  | exact ⟨t + 1, k + 1, false, by omega, HK1, by omega, rfl, by go_num, HB, by first | rfl | trivial⟩
                  | ((repeat apply Exists.intro); exact ⟨by omega, HK1, by omega, by first | rfl | trivial, by go_num, HB, by first | rfl | trivial⟩)
          · obtain rfl : k = e := by omega
            obtain rfl : t = l := by have := HE.out; have := hk.out; omega
            cases b
            · have HLO : Hid (∀ j, j < i + 1 → ¬ FreeAt m j t) := fun j hj => by
                by_cases e' : j = i
                · intro hf
                  rw [e'] at hf
                  exact absurd (hb.out.2 hf) (by decide)
                · exact hlo.out j (by omega)
              clear hb
              go_wp2_with fail
              refine ⟨?_, by (simp [intOf]) <;> omega⟩
              first
                | exact ⟨i + 1, by omega, by go_num, HLO, by first | rfl | trivial⟩
                | ((repeat apply Exists.intro); exact ⟨by omega, by go_num, HLO, by first | rfl | trivial⟩)
            · have hri : r = (i : Int) := (HR.out).one (.inl ⟨i, t, rfl, hl1, rfl, hb.out.1 rfl, hlo.out⟩)
              subst hri
              clear hb
              go_wp2_with fail
              go_ret
              exact ⟨rfl, rfl⟩
      · have hri : r = -1 := (HR.out).one (.inr ⟨rfl, .inr ⟨l, rfl, fun j hf => by
          by_cases e : j < i
          · exact hlo.out j e hf
          · have := hf.le hl1; have := HN.out; omega⟩⟩)
        subst hri
        have hgt : decide ((i : Int) + (l : Int) ≤ (n : Int)) = false := decide_eq_false (by omega)
        have hgt2 : decide (i + l ≤ n) = false := decide_eq_false hin
        go_wp2_with fail
        go_ret
        exact ⟨rfl, rfl⟩

end Go.Proofs.YthbophecmpdpdaaDoor

/- The document's map: Bytes, Level. -/
namespace Go.Proofs.YthbophecmpdpdaaDoor
set_option linter.unusedVariables false
set_option linter.unusedSimpArgs false
open Go.RowKit Dg

set_option maxHeartbeats 4000000 in
set_option maxRecDepth 100000 in
theorem rmbytes_any (w : World) (a : Option Addr) (n cap : Nat) (m : List Bool) (h : BlAt w a m) (hn : m.length = n) (hn1 : 1 ≤ n) (hle : n ≤ 4096) (T : List Nat) (hT : T = bytesTo m m.length) :
    Calls Tryd.prog 35 #[.slice a n cap] w fun e w' => ∃ v, e = .returned v ∧ OwnBytes w' w.heap.size v T ∧ Below w.heap.size w w' := by
  obtain ⟨i0, hi, hz0, hz1, hz2⟩ := info_parts Tryd.info5
  rw [hn] at hT
  have HN := hid_of hn
  obtain ⟨B, hB⟩ : ∃ B, B = (n + 7) / 8 := ⟨_, rfl⟩
  have hBI : ((n : Int) + 7) / 8 = (B : Int) := by omega
  have hB2 : B ≤ 1000 := by omega
  have HBL : Hid (∀ i, (bytesTo m i).length = B) := fun i => by rw [length_bytesTo, hn, hB]
  have HBE := hid_of hB
  have HT := hid_of hT
  obtain ⟨Z, hZ⟩ : ∃ Z, Z = madeCells (Value.int .u8 0).cells (B * i0.size) := ⟨_, rfl⟩
  have hmk : ∀ W : World, (Instr.makeSlice 55 (.int .i64 (B : Int)) (.int .i64 (B : Int))).run Tryd.prog W = .ok (.slice (some ⟨W.heap.size, 0, none⟩) B B) (W.alloc (.cells Z 5)) := by
    intro W
    have h := run_make (P := Tryd.prog) W 55 5 i0 (.int .u8 0) Tryd.underlying55 hi hz0 .i64 .i64 B B (by omega) (by omega) (by rw [hz2]; omega) (by omega)
    simp only [Int.toNat_natCast] at h
    rw [hZ]
    exact h
  have HO0 : Hid ((w.alloc (.cells Z 5)).ownsRow w.heap.size 5 1 (.slice (some ⟨w.heap.size, 0, none⟩) B B) B (u8s (bytesTo m 0))) := by
    have e : bytesTo m 0 = List.replicate B 0 := by show List.replicate _ 0 = _; rw [hn, hB]
    show World.ownsRow _ _ _ _ _ _ _
    rw [e]
    exact own_new w w.heap.size Z B (List.replicate B 0) (by rw [hZ, hz1]; exact made_u8 B) (by simp) (by omega) (Nat.le_refl _)
  have HB0 : Hid (Below w.heap.size w (w.alloc (.cells Z 5))) := (Below.refl _ _).alloc (Nat.le_refl _) _
  have HM : Hid (∀ W : World, Below w.heap.size w W → BlAt W a m) := fun W hW => h.kept (below_kept hW) (fun hne y hy => Nat.not_le.2 (h.lt hne y hy))
  clear h hn hB hT hZ
  go_enter Tryd.func35, Tryd.ntmps35
  go_wp2_with fail
  go_loopw [4, 12] (fun _ v wr => ∃ i : Nat, i ≤ n ∧ v = .int .i64 (i : Int) ∧ Hid (wr.ownsRow w.heap.size 5 1 (.slice (some ⟨w.heap.size, 0, none⟩) B B) B (u8s (bytesTo m i))) ∧ Hid (Below w.heap.size w wr)) (fun _ v _ => n - (intOf v).toNat)
  case atStart => exact ⟨0, Nat.zero_le _, rfl, HO0, HB0⟩
  case round =>
    obtain ⟨i, hi, rfl, ho, hb⟩ := hrel
    clear hBI
    by_cases hin : i < n
    · obtain ⟨y, hy⟩ : ∃ y, m[i]? = some y := ⟨_, List.getElem?_eq_getElem (by rw [HN.out]; exact hin)⟩
      obtain ⟨bb, ob, rfl, hc⟩ := HM.out wr hb.out i y hy
      cases y
      · have HE : Hid (wr.ownsRow w.heap.size 5 1 (.slice (some ⟨w.heap.size, 0, none⟩) B B) B (u8s (bytesTo m (i + 1)))) := by
          have e : bytesTo m (i + 1) = bytesTo m i := by show (if _ then _ else _) = _; rw [if_neg (by rw [hy]; decide)]
          show World.ownsRow _ _ _ _ _ _ _
          rw [e]; exact ho.out
        clear hy ho
        go_wp2_with fail
        refine ⟨?_, by (simp [intOf]) <;> omega⟩
        first
          | exact ⟨i + 1, by omega, by go_num, HE, hb⟩
          | ((repeat apply Exists.intro); refine ⟨?_, rfl⟩; exact ⟨i + 1, by omega, by go_num, HE, hb⟩)
      · obtain ⟨q, hq⟩ : ∃ q, q = i / 8 := ⟨_, rfl⟩
        obtain ⟨r, hr⟩ : ∃ r, r = i % 8 := ⟨_, rfl⟩
        have hqB : q < B := by have := HBE.out; omega
        obtain ⟨x, hx⟩ : ∃ x, (bytesTo m i)[q]? = some x := ⟨_, List.getElem?_eq_getElem (by rw [HBL.out]; exact hqB)⟩
        have hx256 := bytesTo_lt m i x (List.mem_of_getElem? hx)
        obtain ⟨hcx, hfx⟩ := own_cell ho.out hx
        obtain ⟨P, hP⟩ : ∃ P : Nat, P = 128 / 2 ^ r := ⟨_, rfl⟩
        have hPI : (128 : Int) / 2 ^ r = (P : Int) := by rw [hP]; exact shr_int r
        have hP256 : P < 256 := by rw [hP]; exact Nat.lt_of_le_of_lt (Nat.div_le_self _ _) (by decide)
        obtain ⟨z, hz⟩ : ∃ z, z = x ||| P := ⟨_, rfl⟩
        have hor := u8_or_nat x P hx256 hP256
        rw [← hz] at hor
        have HE : Hid (∀ w2 : World, Kept (fun _ => False) wr w2 → (w2.setCell ⟨w.heap.size, q, none⟩ (.int .u8 (z : Int))).ownsRow w.heap.size 5 1 (.slice (some ⟨w.heap.size, 0, none⟩) B B) B (u8s (bytesTo m (i + 1)))) := fun w2 hk => by
          have hd : w2.ownsRow w.heap.size 5 1 (.slice (some ⟨w.heap.size, 0, none⟩) B B) B (u8s (bytesTo m i)) := ownsRow_other ho.out hk (fun _ _ h => h)
          have e := ownsRow_set hd q hqB (.int .u8 (z : Int))
          rw [u8s_set] at e
          have e2 : bytesTo m (i + 1) = (bytesTo m i).set q z := by
            show (if _ then _ else _) = _
            rw [if_pos hy, hz, hP, hr, hq, List.getD_eq_getElem?_getD, ← hq, hx]; rfl
          rw [e2]; exact e
        have hqI : (i : Int) / 8 = (q : Int) := by omega
        have hrI : (i : Int) % 8 = (r : Int) := by omega
        have hr8 : r < 8 := by omega
        clear hy hq hr hx hP hz ho
        go_wp2_with fail
        refine ⟨?_, by (simp [intOf]) <;> omega⟩
        first
          | exact ⟨i + 1, by omega, by go_num, HE.out wr (Kept.refl _ _), hb.out.setCell (Nat.le_refl _) _⟩
          | ((repeat apply Exists.intro); refine ⟨?_, rfl⟩; exact ⟨i + 1, by omega, by go_num, HE.out wr (Kept.refl _ _), hb.out.setCell (Nat.le_refl _) _⟩)
    · obtain rfl : i = n := by omega
      have HE : Hid (OwnBytes wr w.heap.size (.slice (some ⟨w.heap.size, 0, none⟩) B B) T) := by
        show World.ownsRow _ _ _ _ _ _ _
        rw [HT.out, HBL.out]; exact ho.out
      clear ho
      go_wp2_with fail
      go_ret
      exact ⟨_, rfl, HE.out, hb.out⟩

theorem andNot_int (a b : Nat) (ha : a < 18446744073709551616) (hb : b < 18446744073709551616) :
    bits .andNot .u64 (a : Int) (b : Int) = ((a &&& (18446744073709551615 - b) : Nat) : Int) := by
  have hx : a &&& (18446744073709551615 - b) < 2 ^ 64 := Nat.and_lt_two_pow _ (by omega)
  have h1 : (BitVec.ofInt 64 (a : Int)).toNat = a := by
    rw [BitVec.ofInt_natCast, BitVec.toNat_ofNat]; exact Nat.mod_eq_of_lt (by omega)
  have h2 : (BitVec.ofInt 64 (b : Int)).toNat = b := by
    rw [BitVec.ofInt_natCast, BitVec.toNat_ofNat]; exact Nat.mod_eq_of_lt (by omega)
  show IntKind.u64.wrap ((BitVec.ofInt 64 (a : Int) &&& ~~~ BitVec.ofInt 64 (b : Int)).toNat : Int) = _
  rw [BitVec.toNat_and, BitVec.toNat_not, h1, h2, IntKind.wrap_u64, show (2 : Nat) ^ 64 - 1 = 18446744073709551615 from by decide]
  omega
theorem numB_congr {f g : Nat → Bool} : ∀ n, (∀ j, j < n → f j = g j) → numB f n = numB g n
  | 0, _ => rfl
  | n + 1, h => by unfold numB; rw [numB_congr n fun j hj => h j (by omega), h n (by omega)]
/-- A word of which the first j digits are told. -/
def wordTo (R : List Bool) (base j : Nat) : Nat := numB (fun i => if i < j then dgt R (base + i) else true) 64
theorem wordTo_lt (R : List Bool) (base j : Nat) : wordTo R base j < 18446744073709551616 := numB_lt _ 64
theorem wordTo_bit (R : List Bool) (base j i : Nat) (h : i < 64) : (wordTo R base j).testBit i = if i < j then dgt R (base + i) else true := numB_bit _ 64 i h
theorem wordTo_zero (R : List Bool) (base : Nat) : wordTo R base 0 = 18446744073709551615 := by
  refine eq_of_bits64 (wordTo_lt _ _ _) (by decide) fun i hi => ?_
  rw [wordTo_bit _ _ _ _ hi, show (18446744073709551615 : Nat) = 2 ^ 64 - 1 from by decide, Nat.testBit_two_pow_sub_one]
  simp [hi]
theorem wordTo_stay {R : List Bool} {base j : Nat} (h : dgt R (base + j) = true) : wordTo R base (j + 1) = wordTo R base j := by
  refine numB_congr 64 fun i hi => ?_
  by_cases e : i = j
  · subst e; simp [h]
  · by_cases e2 : i < j
    · rw [if_pos e2, if_pos (by omega)]
    · rw [if_neg e2, if_neg (by omega)]
theorem wordTo_off {R : List Bool} {base j : Nat} (h : dgt R (base + j) = false) (hj : j < 64) : wordTo R base j &&& (18446744073709551615 - 2 ^ j) = wordTo R base (j + 1) := by
  have hp : 2 ^ j < 2 ^ 64 := Nat.pow_lt_pow_right (by decide) hj
  refine eq_of_bits64 (Nat.and_lt_two_pow (n := 64) _ (Nat.lt_of_le_of_lt (Nat.sub_le _ _) (by decide))) (wordTo_lt _ _ _) fun i hi => ?_
  rw [Nat.testBit_and, not64_bit _ _ (by omega) hi, wordTo_bit _ _ _ _ hi, wordTo_bit _ _ _ _ hi, Nat.testBit_two_pow]
  by_cases e : i = j
  · subst e; simp [h]
  · by_cases e2 : i < j
    · rw [if_pos e2, if_pos (by omega)]
      simp [show ¬ j = i by omega]
    · rw [if_neg e2, if_neg (by omega)]
      simp [show ¬ j = i by omega]
theorem wordTo_end {R : List Bool} {base j : Nat} (h : R.length ≤ base + j) : wordTo R base j = wordTo R base 64 := by
  refine numB_congr 64 fun i hi => ?_
  rw [if_pos hi]
  by_cases e : i < j
  · rw [if_pos e]
  · rw [if_neg e, dgt_behind (by omega)]
theorem wsOf_get {R : List Bool} {q : Nat} (h : q < (R.length + 63) / 64) : (wsOf R)[q]? = some (wordTo R (64 * q) 64) := by
  unfold wsOf
  rw [List.getElem?_map, List.getElem?_range h]
  show some _ = some _
  congr 1

end Go.Proofs.YthbophecmpdpdaaDoor
