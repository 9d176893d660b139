/- The texts RfP2, RfO, RLimits, RfX, RfBack, one behind the other. -/
import Derived.Test.YtcbenfmffedioaaPart02
import Derived.Lib.SliceRun

/- The program's table: Add, Clone; all of it together: the bundle of the landed code. -/
namespace Go.Proofs.Ytcbenfmffedioaa
set_option linter.unusedVariables false
set_option linter.unusedSimpArgs false
open Go.RowKit Dg

set_option maxRecDepth 100000 in
set_option maxHeartbeats 4000000 in
theorem tadd_is (w : World) (b g c : Nat) (C : List Nat) (h : TaIs w b g c C) (a : Option Addr) (n cap : Nat) (l : List Int) (ha : IntsAt w a l) (hl : l.length = n) (hn : n ≤ 100000) (h64 : ∀ x ∈ l, I64 x) (hX : l ≠ [] → ∀ y, a = some y → y.block ≠ g) (hs : sumC C ≤ 1000000) (R : Bool) (hR : R = okZ C l) (C2 : List Nat) (hC2 : C2 = addS C l) :
    Calls Try.prog 9 #[.pointer (some ⟨b, 0, none⟩), .slice a n cap] w fun e w' => e = .returned (.bool R) ∧ TaIs w' b g c C2 ∧ Kept (fun k => k = g) w w' := by
  have H := hid_of h
  have HI := hid_of ha
  have H6 := hid_of h64
  have HX := hid_of hX
  have HL := hid_of hl
  have HSU := hid_of hs
  have HR := hid_of hR
  have HC2 := hid_of hC2
  clear h ha h64 hX hl hs hR hC2
  go_enter Try.func9, Try.ntmps9
  go_wp2_with fail
  go_loopw [11] (fun i wr => ∃ j m : Nat, j ≤ n ∧ i = .int .i64 (j : Int) ∧ Hid (∀ x ∈ l.take j, isSec C x) ∧ wr = w.drewN m) (fun i _ => n - (intOf i).toNat)
  case atStart => exact ⟨0, 0, Nat.zero_le _, rfl, (fun x hx => by simp at hx), rfl⟩
  case round =>
    obtain ⟨j, m, hj, rfl, HA, rfl⟩ := hrel
    by_cases hjn : j < n
    · obtain ⟨x, hx⟩ : ∃ x, l[j]? = some x := ⟨_, List.getElem?_eq_getElem (by have := HL.out; omega)⟩
      obtain ⟨ab, off, rfl, hc⟩ := HI.out j x hx
      have hm : x ∈ l := List.mem_of_getElem? hx
      have HM := hid_of hm
      have HT := hid_of (take_next l j x hx)
      by_cases hsx : isSec C x
      · have HH := hid_of (thas_is (w.drewN m) b g c C (H.out.draws m) x (H6.out x hm) true (decide_eq_true hsx).symm)
        have HA2 : Hid (∀ x ∈ l.take (j + 1), isSec C x) := fun y hy => by
          rw [HT.out] at hy
          rcases List.mem_append.1 hy with hy | hy
          · exact HA.out y hy
          · rw [List.mem_singleton.1 hy]; exact hsx
        clear hx hm hsx
        go_wp2_with fail
        refine HH.out.mono ?_
        rintro e w1 ⟨rfl, rfl⟩
        go_wp2_with fail
        all_goals go_roundw
        case rel => exact ⟨j + 1, m, by omega, by go_num, HA2, rfl⟩
        case measure => simp [intOf]; omega
      · have HH := hid_of (thas_is (w.drewN m) b g c C (H.out.draws m) x (H6.out x hm) false (decide_eq_false hsx).symm)
        have hno : okZ C l = false := by
          cases e : okZ C l with
          | false => rfl
          | true => exact absurd ((okZ_iff C l).1 e x hm) hsx
        have hno2 : addS C l = C := by unfold addS; rw [hno]; rfl
        obtain rfl : R = false := HR.out.trans hno
        obtain rfl : C2 = C := HC2.out.trans hno2
        clear hx hm hsx hno hno2
        go_wp2_with fail
        refine HH.out.mono ?_
        rintro e w1 ⟨rfl, rfl⟩
        go_wp2_with fail
        go_ret
        exact ⟨rfl, H.out.draws m, ⟨rfl, rfl, rfl, Nat.le_refl _, fun _ _ _ => rfl⟩⟩
    · obtain rfl : j = n := by omega
      have hall : ∀ x ∈ l, isSec C x := by
        have := HA.out
        rw [List.take_of_length_le (by have := HL.out; omega)] at this
        exact this
      have hyes : okZ C l = true := (okZ_iff C l).2 hall
      have hyes2 : addS C l = addZ C l := by unfold addS; rw [if_pos hyes]
      obtain rfl : R = true := HR.out.trans hyes
      obtain rfl : C2 = addZ C l := HC2.out.trans hyes2
      have HS := hid_of hall
      clear hall hyes hyes2 HA hjn
      go_wp2_with fail
      go_loopw [22] (fun i wr => ∃ k : Nat, k ≤ j ∧ i = .int .i64 (k : Int) ∧ Hid (TaIs wr b g c (addZ C (l.take k))) ∧ Hid (Kept (fun k => k = g) w wr)) (fun i _ => j - (intOf i).toNat)
      case atStart => exact ⟨0, Nat.zero_le _, rfl, H.out.draws m, (⟨rfl, rfl, rfl, Nat.le_refl _, fun _ _ _ => rfl⟩ : Kept (fun k => k = g) w (w.drewN m))⟩
      case round =>
        obtain ⟨k, hk, rfl, HT, HK⟩ := hrel
        by_cases hkn : k < j
        · obtain ⟨x, hx⟩ : ∃ x, l[k]? = some x := ⟨_, List.getElem?_eq_getElem (by have := HL.out; omega)⟩
          have hm : x ∈ l := List.mem_of_getElem? hx
          have hsx := HS.out x hm
          obtain ⟨p, rfl⟩ : ∃ p : Nat, x = (p : Int) := ⟨x.toNat, by have := hsx.1; omega⟩
          obtain ⟨ab, off, rfl, hc⟩ := HI.out.kept HK.out (fun y hy e => HX.out (fun e2 => by rw [e2] at hx; simp at hx) y hy e) k _ hx
          have hp : p < C.length := by have := hsx.2; omega
          obtain ⟨D, hD⟩ : ∃ D, D = addZ C (l.take k) := ⟨_, rfl⟩
          have hDl : D.length = C.length := by rw [hD, length_addZ]
          have hsec : ∀ x ∈ l.take k, isSec C x := fun y hy => HS.out y (List.mem_of_mem_take hy)
          have hDs : sumC D ≤ 1100000 := by
            rw [hD, sumC_add _ _ hsec, List.length_take]
            have := HSU.out
            omega
          obtain ⟨y, hy⟩ : ∃ y, D[p]? = some y := ⟨_, List.getElem?_eq_getElem (by omega)⟩
          have hg : D.getD p 0 = y := by rw [List.getD_eq_getElem?_getD, hy]; rfl
          have hy2 : y ≤ 1100000 := by rw [← hg]; exact Nat.le_trans (getD_le_sumC p) hDs
          have HN : Hid (addZ C (l.take (k + 1)) = D.set p (y + 1)) := by
            show _ = _
            rw [take_next l k _ hx, addZ_snoc, ← hD, Int.toNat_natCast, hg]
          rw [← hD] at HT
          obtain ⟨d1, d2⟩ := HT.out.get hy
          have d3 := HT.out.cell
          obtain ⟨N, hN⟩ : ∃ N, N = D.length := ⟨_, rfl⟩
          rw [← hN] at d3
          have hpN : p < N := by omega
          have HT2 : Hid (TaIs (wr.setCell ⟨g, p, none⟩ (.int .i64 ((y + 1 : Nat) : Int))) b g c (addZ C (l.take (k + 1)))) := by
            rw [HN.out]
            exact HT.out.set (by omega) (y + 1)
          have HK2 : Hid (Kept (fun k => k = g) w (wr.setCell ⟨g, p, none⟩ (.int .i64 ((y + 1 : Nat) : Int)))) := HK.out.trans (Kept.setCell _ _ _ rfl)
          clear hx hm hsx hsec hD hDl hDs hy hg hN hp
          go_wp2_with fail
          all_goals go_roundw
          case rel => exact ⟨k + 1, by omega, by go_num, HT2, HK2⟩
          case measure => simp [intOf]; omega
        · obtain rfl : k = j := by omega
          have e : l.take k = l := List.take_of_length_le (by have := HL.out; omega)
          rw [e] at HT
          clear e
          go_wp2_with fail
          go_ret
          exact ⟨rfl, HT.out, HK.out⟩
theorem oneC_i (l : List Int) : ∀ u ∈ i64s l, u.oneCell' = true := by
  intro u hu
  obtain ⟨x, -, rfl⟩ := List.mem_map.1 hu
  rfl
set_option maxHeartbeats 1000000 in
set_option maxRecDepth 100000 in
/-- 'slices.Clone' of numbers. -/
theorem tci_any (w : World) (g n c : Nat) (l : List Int) (hn1 : 1 ≤ n) (hn2 : n ≤ 100000) (h : w.ownsRow 0 3 1 (.slice (some ⟨g, 0, none⟩) n c) n (i64s l)) :
    Calls Try.prog 21 #[.slice (some ⟨g, 0, none⟩) n c] w fun e w' => ∃ g2 c2, e = .returned (.slice (some ⟨g2, 0, none⟩) n c2) ∧ w'.ownsRow w.heap.size 3 1 (.slice (some ⟨g2, 0, none⟩) n c2) n (i64s l) ∧ Below w.heap.size w w' := by
  obtain ⟨i0, hi, hz0, hz1, hz2⟩ := info_parts Try.info3
  have qT : ∀ (w : World) (a : Option Addr) (n c n' c' : Nat), (binOp .eql 22 (.slice a n c) (.slice none n' c')).run Try.prog w = .ok (.bool a.isNone) w := fun w a n c n' c' => Lib.run_eql_slice_nil w _ _ a n c n' c' Try.underlying22
  have HB0 : Hid (Below w.heap.size w (w.alloc (.cells #[] 3))) := (Below.refl _ _).alloc (Nat.le_refl _) _
  have HO : Hid ((w.alloc (.cells #[] 3)).ownsRow w.heap.size 3 1 (.slice (some ⟨w.heap.size, 0, none⟩) 0 0) 0 []) := ints_new w w.heap.size #[] 0 [] rfl rfl (by decide) (Nat.le_refl _)
  have hl : l.length = n := by have := h.1; simpa using this
  have HL := hid_of hl
  have HC : Hid (∀ j u, (i64s l)[j]? = some u → (w.alloc (.cells #[] 3)).cell? ((⟨g, 0, none⟩ : Addr).add j) = some u) := fun j u hu => by
    rw [i64s_get] at hu
    obtain ⟨x, hx, rfl⟩ := Option.map_eq_some_iff.1 hu
    obtain ⟨b, off, e, hc⟩ := IntsAt.of_owns h j x hx
    cases e
    have hadd : (⟨g, 0, none⟩ : Addr).add j = ⟨g, 0 + j, none⟩ := by simp [Addr.add]; omega
    rw [hadd, (Kept.alloc (fun _ => False) w _).cell (World.ownsRow.lt h g rfl).2 (fun h => h)]
    exact hc
  clear h hl
  go_enter Try.func21, Try.ntmps21
  go_wp2_with (at_builtin; go_must (refine wpList_append_mine _ rfl (.tmp 5) (.tmp 6) 22 rfl w.heap.size 3 i0 (.int .i64 0) 1 8 Try.underlying22 hi hz0 hz1 hz2 rfl (by decide) _ 0 [] rfl HO.out ⟨g, 0, none⟩ n c (i64s l) rfl ?c1 HC.out (oneC_i l) (by omega) ?b1 ?b2 HB0.out.size ?_))
  case c1 => rw [length_i64s, HL.out, Nat.mul_one]
  case b1 => unfold maxLen; omega
  case b2 => omega
  intro g2 c2 w2 H1 H2 H3
  have HO2 : Hid (w2.ownsRow w.heap.size 3 1 (.slice (some ⟨g2, 0, none⟩) n c2) n (i64s l)) := by
    first
      | exact H1
      | (have e := H1.out; rw [Nat.zero_add] at e; exact e)
  have HB2 : Hid (Below w.heap.size w w2) := HB0.out.grown H2.out HB0.out.size (fun k e => by cases e; exact Nat.le_refl _)
  clear H1 H2 H3
  try rw [Nat.zero_add]
  go_wp2_with fail
  go_ret
  exact ⟨g2, c2, rfl, HO2.out, HB2.out⟩
set_option maxHeartbeats 4000000 in
set_option maxRecDepth 100000 in
theorem tclone_is (w : World) (b g c : Nat) (C : List Nat) (h : TaIs w b g c C) :
    Calls Try.prog 16 #[.pointer (some ⟨b, 0, none⟩)] w fun e w' => ∃ b2 g2 c2, e = .returned (.pointer (some ⟨b2, 0, none⟩)) ∧ TaIs w' b2 g2 c2 C ∧ w.heap.size ≤ b2 ∧ w.heap.size ≤ g2 ∧ Below w.heap.size w w' := by
  have c0 := h.cell
  have H0 := hid_of h
  obtain ⟨n, hn⟩ : ∃ n, n = C.length := ⟨_, rfl⟩
  have hr := h.row
  rw [← hn] at c0 hr
  have HC := hid_of (tci_any w g n c (cI C) (by have := h.pos; omega) (by have := h.le; omega) hr)
  have HN := hid_of hn
  clear h hn hr
  go_enter Try.func16, Try.ntmps16
  go_wp2_with fail
  refine HC.out.mono ?_
  rintro e w2 ⟨g2, c2, rfl, ho2, hb2⟩
  have HO2 := hid_of ho2
  have HB2 := hid_of hb2
  clear ho2 hb2
  go_wp2_with fail
  go_ret
  have hg := World.ownsRow.lt HO2.out g2 rfl
  have hg' : w.heap.size ≤ g2 := hg.1
  have hsz := HB2.out.size
  refine ⟨w2.heap.size, g2, c2, rfl, ⟨?_, ?_, H0.out.pos, H0.out.le, ?_⟩, hsz, hg', HB2.out.alloc hsz _⟩
  · rw [heap_alloc_new, ← HN.out]
  · rw [← HN.out]
    exact ownsRow_base (World.ownsRow.alloc HO2.out _) (Nat.zero_le _)
  · have := hg.2
    omega

/-- The bundle of the landed code. -/
theorem rfsW : Rfs Ta where
  lt := fun ⟨g, c, h, hF⟩ k hk => by
    have := h.lt
    rcases (hF k).1 hk with rfl | rfl
    · exact this.1
    · exact this.2
  keep := fun ⟨g, c, h, hF⟩ hk hX => ⟨g, c, h.kept hk (hX _ ((hF _).2 (.inl rfl))) (hX _ ((hF _).2 (.inr rfl))), hF⟩
  len := fun ⟨g, c, h, hF⟩ => ⟨h.pos, h.le⟩
  newB := fun w n h1 h2 => (tnew_is w n h1 h2).mono fun e w' ⟨b, g, c, e1, e2, e3, e4, e5⟩ => ⟨b, _, e1, e2.ta, fun k hk => by rcases hk with rfl | rfl <;> assumption, e5⟩
  addB := fun w b F C a n cap l ⟨g, c, h, hF⟩ ha hl hn h64 hX hs => (tadd_is w b g c C h a n cap l ha hl hn h64 (fun hne y hy e => hX hne y hy ((hF _).2 (.inr e))) hs _ rfl _ rfl).mono fun e w' ⟨e1, e2, e3⟩ => ⟨e1, e2.turned e3 hF⟩
  dropB := fun w b F C i ⟨g, c, h, hF⟩ hi hs => (tdrop_is w b g c C h i hi hs).mono fun e w' ⟨e1, e2, e3⟩ => ⟨e1, e2.turned e3 hF⟩
  sumB := fun w b F C ⟨g, c, h, hF⟩ hs => tsum_is w b g c C h hs _ rfl
theorem rfOfW : RfOf Ta := fun w b F C i ⟨g, c, h, hF⟩ hi => tof_is w b g c C h i hi _ rfl
theorem rfOwnedW : RfOwned Ta := fun w b F C ⟨g, c, h, hF⟩ => towned_is w b g c C h
theorem rfCloneW : RfClone Ta := fun w b F C ⟨g, c, h, hF⟩ => (tclone_is w b g c C h).mono fun e w' ⟨b2, g2, c2, e1, e2, e3, e4, e5⟩ => ⟨b2, _, e1, e2.ta, fun k hk => by rcases hk with rfl | rfl <;> assumption, e5⟩

end Go.Proofs.Ytcbenfmffedioaa

/- The document's example of layer 12, over the bundle. -/
namespace Go.Proofs.Ytcbenfmffedioaa
set_option linter.unusedVariables false
set_option linter.unusedSimpArgs false
open Go.RowKit Dg

theorem lit2 (w : World) (x y : Int) : IntsAt (w.alloc (.cells #[.int .i64 x, .int .i64 y] 3)) (some ⟨w.heap.size, 0, none⟩) [x, y] := by
  intro j z hj
  match j, hj with
  | 0, hj =>
    simp at hj
    subst hj
    exact ⟨w.heap.size, 0, rfl, by unfold World.cell?; rw [heap_alloc_new]; rfl⟩
  | 1, hj =>
    simp at hj
    subst hj
    exact ⟨w.heap.size, 0, rfl, by unfold World.cell?; rw [heap_alloc_new]; rfl⟩
theorem below_keptR {w w' : World} (hb : Below w.heap.size w w') : Kept (fun k => w.heap.size ≤ k) w w' := ⟨hb.os, hb.tape, hb.output, hb.size, fun k hk hf => hb.block k (Nat.lt_of_not_le hf)⟩
theorem kept_in {B : Nat} {X : Nat → Prop} {w0 w w' : World} (h : Kept (fun k => B ≤ k) w0 w) (hk : Kept (fun k => ¬ X k) w w') (hX : ∀ k, k < B → X k) : Kept (fun k => B ≤ k) w0 w' :=
  h.trans (hk.mono (fun k _ e => Nat.le_of_not_lt (fun h => e (hX k h))))
theorem kept_new {B : Nat} {w0 w w' : World} (h : Kept (fun k => B ≤ k) w0 w) (hb : Below w.heap.size w w') (hB : B ≤ w.heap.size) : Kept (fun k => B ≤ k) w0 w' :=
  h.trans ⟨hb.os, hb.tape, hb.output, hb.size, fun k hk hf => hb.block k (by omega)⟩
theorem kept_draws {B : Nat} {w0 w : World} (h : Kept (fun k => B ≤ k) w0 w) (n : Nat) : Kept (fun k => B ≤ k) w0 (w.drewN n) := ⟨h.os, h.tape, h.output, h.size, h.block⟩
theorem kept_end {w0 w : World} (h : Kept (fun k => w0.heap.size ≤ k) w0 w) : Below w0.heap.size w0 w := ⟨h.os, h.tape, h.output, h.size, fun k hk => h.block k hk (by omega)⟩
set_option maxRecDepth 100000 in
set_option maxHeartbeats 4000000 in
theorem wakes12_any {Ti : TbP} (R : Rfs Ti) (w : World) :
    Calls Try.prog 11 #[] w fun e w' => e = .returned (.bool true) ∧ Below w.heap.size w w' := by
  go_enter Try.func11, Try.ntmps11
  go_wp2_with fail
  refine (tb_new R w 3 (by decide) (by decide)).mono ?_
  rintro e w1 ⟨b, rfl, ht1, hb1⟩
  have HT1 : Hid (Tb Ti (fun k => k < w.heap.size ∨ k = w1.heap.size) (w1.alloc (.cells #[.int .i64 1, .int .i64 1] 3)) b (List.replicate 3 0)) := ht1.alloc R _
  have HK1 : Hid (Kept (fun k => w.heap.size ≤ k) w (w1.alloc (.cells #[.int .i64 1, .int .i64 1] 3))) := (kept_new (Kept.refl _ _) hb1 (Nat.le_refl _)).trans (Kept.alloc _ _ _)
  have HL1 := hid_of (lit2 w1 1 1)
  clear ht1 hb1
  go_wp2_with fail
  refine (tb_add R HT1.out (some ⟨w1.heap.size, 0, none⟩) 2 2 [1, 1] rfl (by decide) HL1.out (by intro x hx; simp at hx; subst hx; exact ⟨by decide, by decide⟩) (fun _ y hy => by cases hy; exact .inr rfl) (by decide) true (by decide) [0, 2, 0] (by decide)).mono ?_
  rintro e w2 ⟨rfl, ht2, hk2⟩
  have HT2 := hid_of ht2
  have HK2 := hid_of (kept_in HK1.out hk2 (fun k hk => .inl hk))
  clear ht2 hk2 HT1 HK1 HL1
  go_wp2_with fail
  refine (tb_drop R HT2.out 1 ⟨by decide, by decide⟩ (by decide) 1 true (by decide) [0, 1, 0] (by decide)).mono ?_
  rintro e w3 ⟨rfl, ht3, hk3⟩
  have HK3 := hid_of (kept_in HK2.out hk3 (fun k hk => .inl hk))
  clear ht3 hk3
  go_wp2_with fail
  go_ret
  exact ⟨rfl, kept_end HK3.out⟩

end Go.Proofs.Ytcbenfmffedioaa

/- RefsLimits over the bundle. -/
namespace Go.Proofs.Ytcbenfmffedioaa
set_option linter.unusedVariables false
set_option linter.unusedSimpArgs false
open Go.RowKit Dg

/-- The last one of N has k. -/
def cntL (N k : Nat) : List Nat := (List.replicate N 0).set (N - 1) k
theorem length_cntL (N k : Nat) : (cntL N k).length = N := by simp [cntL]
theorem cntL_zero (N : Nat) : List.replicate N 0 = cntL N 0 := by
  refine List.ext_getElem? fun j => ?_
  unfold cntL
  rw [List.getElem?_set, List.getElem?_replicate, List.length_replicate]
  by_cases e : N - 1 = j
  · rw [if_pos e]
    by_cases e2 : j < N
    · rw [if_pos e2, if_pos (by omega)]
    · rw [if_neg e2, if_neg (by omega)]
  · rw [if_neg e]
theorem cntL_get {N k : Nat} (hN : 1 ≤ N) (j : Nat) : (cntL N k).getD j 0 = if j = N - 1 then k else 0 := by
  unfold cntL
  rw [List.getD_eq_getElem?_getD, List.getElem?_set, List.getElem?_replicate, List.length_replicate]
  by_cases e : N - 1 = j
  · rw [if_pos e, if_pos (by omega), if_pos e.symm]; rfl
  · rw [if_neg e, if_neg (show ¬ j = N - 1 by omega)]
    split <;> rfl
theorem cntL_sum {N k : Nat} (hN : 1 ≤ N) : sumC (cntL N k) = k := by
  have h := sumC_set (C := List.replicate N 0) (i := N - 1) k (by simp; omega)
  have e0 : (List.replicate N 0).getD (N - 1) 0 = 0 := by
    rw [List.getD_eq_getElem?_getD, List.getElem?_replicate]
    split <;> rfl
  have e1 : sumC (List.replicate N 0) = 0 := sumTo_nought N _
  rw [e0, e1] at h
  unfold cntL
  omega
theorem cntL_add {N k : Nat} {x : Int} (hx : x = (N : Int) - 1) (hN : 1 ≤ N) : true = okZ (cntL N k) [x] ∧ cntL N (k + 1) = addS (cntL N k) [x] := by
  have h1 : okZ (cntL N k) [x] = true := by
    rw [okZ_iff]
    intro y hy
    rw [List.mem_singleton.1 hy]
    unfold isSec
    rw [length_cntL]
    omega
  refine ⟨h1.symm, ?_⟩
  unfold addS
  rw [if_pos h1]
  show _ = (cntL N k).set x.toNat ((cntL N k).getD x.toNat 0 + 1)
  rw [show x.toNat = N - 1 by omega, cntL_get hN, if_pos rfl]
  unfold cntL
  rw [List.set_set]
theorem cntL_drop {N k : Nat} {x : Int} (hx : x = (N : Int) - 1) (hN : 1 ≤ N) : dropR (cntL N (k + 1)) x = (k, true) ∧ cntL N k = dropS (cntL N (k + 1)) x := by
  have e : x = ((N - 1 : Nat) : Int) := by omega
  have h1 : (cntL N (k + 1))[N - 1]? = some (k + 1) := by
    unfold cntL
    rw [List.getElem?_set, if_pos rfl, List.length_replicate, if_pos (by omega)]
  obtain ⟨h2, h3⟩ := drop_yes h1 (by omega)
  rw [e, h2, h3]
  refine ⟨rfl, ?_⟩
  unfold cntL
  rw [List.set_set]
  rfl
theorem cntL_out {N : Nat} {x : Int} (hx : x < 0 ∨ (N : Int) ≤ x) : false = okZ (cntL N 0) [x] ∧ cntL N 0 = addS (cntL N 0) [x] ∧ 0 = ofR (cntL N 0) x := by
  have hn : ¬ isSec (cntL N 0) x := fun h => by
    unfold isSec at h
    rw [length_cntL] at h
    omega
  have h1 : okZ (cntL N 0) [x] = false := by
    cases h : okZ (cntL N 0) [x] with
    | false => rfl
    | true => exact absurd ((okZ_iff _ _).1 h x (List.mem_singleton.2 rfl)) hn
  refine ⟨h1.symm, ?_, ?_⟩
  · unfold addS; rw [h1]; rfl
  · unfold ofR; rw [if_neg hn]
theorem cntL_last {N : Nat} {x : Int} (hx : x = (N : Int) - 1) (hN : 1 ≤ N) : dropR (cntL N 0) x = (0, false) ∧ cntL N 0 = dropS (cntL N 0) x ∧ 0 = ofR (cntL N 0) x := by
  have hz : (cntL N 0).getD x.toNat 0 = 0 := by rw [cntL_get hN]; split <;> rfl
  have hn : ¬ (isSec (cntL N 0) x ∧ 0 < (cntL N 0).getD x.toNat 0) := fun h => by rw [hz] at h; exact absurd h.2 (by decide)
  obtain ⟨h1, h2⟩ := drop_no hn
  refine ⟨h1, h2.symm, ?_⟩
  unfold ofR
  rw [hz]
  split <;> rfl
theorem cntL_one {N : Nat} {x : Int} (h0 : 0 ≤ x) (hx : x < (N : Int)) : true = okZ (cntL N 0) [x] ∧ 1 = ofR (addS (cntL N 0) [x]) x := by
  have hs : isSec (cntL N 0) x := by unfold isSec; rw [length_cntL]; exact ⟨h0, hx⟩
  have h1 : okZ (cntL N 0) [x] = true := by
    rw [okZ_iff]
    intro y hy
    rw [List.mem_singleton.1 hy]; exact hs
  refine ⟨h1.symm, ?_⟩
  have hs2 : isSec (addS (cntL N 0) [x]) x := by unfold isSec; rw [length_addS]; exact hs
  unfold ofR
  rw [if_pos hs2]
  unfold addS
  rw [if_pos h1, addZ_get [x] _ (fun y hy => by rw [List.mem_singleton.1 hy]; exact hs) x.toNat (by rw [length_cntL]; omega), cntL_get (by omega)]
  have e : ((x.toNat : Nat) : Int) = x := by omega
  rw [e]
  simp
set_option maxRecDepth 100000 in
set_option maxHeartbeats 8000000 in
theorem rlimits_any {Ti : TbP} (R : Rfs Ti) (O : RfOf Ti) (W : World) (n i t : Int) (hn : I64 n) (hi : I64 i) (ht : I64 t) :
    Calls Try.prog 6 #[.int .i64 n, .int .i64 i, .int .i64 t] W fun e W' => e = .returned (.bool true) ∧ Below W.heap.size W W' := by
  obtain ⟨hn1, hn2⟩ := hn
  obtain ⟨ht1, ht2⟩ := ht
  obtain ⟨hi1, hi2⟩ := hi
  obtain ⟨N, hN⟩ : ∃ N : Nat, (N : Int) = 1 + n % 30 := ⟨(1 + n % 30).toNat, by omega⟩
  have hN1 : 1 ≤ N := by omega
  have hN3 : N ≤ 30 := by omega
  have hN' : (1 : Int) + n % 30 = (N : Int) := hN.symm
  obtain ⟨M, hM⟩ : ∃ M : Nat, t % 9 = (M : Int) := ⟨(t % 9).toNat, by omega⟩
  have hM9 : M < 9 := by omega
  obtain ⟨p, hp⟩ : ∃ p : Int, p = (N : Int) - 1 := ⟨_, rfl⟩
  have hpI : (N : Int) - 1 = p := hp.symm
  have hp0 : 0 ≤ p := by omega
  have hp30 : p < 30 := by omega
  have HP := hid_of hp
  have HW1 := hid_of (within_any n 30 W hn1 hn2 (by decide) (by decide))
  have HW2 : Hid (Calls Try.prog 8 #[.int .i64 t, .int .i64 9] W fun e w' => e = .returned (.int .i64 (M : Int)) ∧ W = w') := by
    have e := within_any t 9 W ht1 ht2 (by decide) (by decide)
    rw [hM] at e
    exact e
  clear hN hM hp
  go_enter Try.func6, Try.ntmps6
  go_wp2_with fail
  refine HW1.out.mono ?_
  rintro e w1 ⟨rfl, rfl⟩
  go_wp2_with fail
  refine HW2.out.mono ?_
  rintro e w1 ⟨rfl, rfl⟩
  go_wp2_with fail
  refine (tb_new R W N hN1 (by omega)).mono ?_
  rintro e w1 ⟨b, rfl, ht1, hb1⟩
  rw [cntL_zero] at ht1
  have HT1 := hid_of ht1
  have HK1 : Hid (Kept (fun k => W.heap.size ≤ k) W w1) := kept_new (Kept.refl _ _) hb1 (Nat.le_refl _)
  clear ht1 hb1
  go_wp2_with fail
  go_loopw [9] (fun v wr => ∃ k : Nat, k ≤ M ∧ v = .int .i64 (k : Int) ∧ Hid (Tb Ti (fun k => k < W.heap.size) wr b (cntL N k)) ∧ Hid (Kept (fun k => W.heap.size ≤ k) W wr)) (fun v _ => M - (intOf v).toNat)
  case atStart => exact ⟨0, Nat.zero_le _, rfl, HT1, HK1⟩
  case round =>
    obtain ⟨k, hk, rfl, htb, hkp⟩ := hrel
    by_cases hkM : k < M
    · have HC := hid_of (cntL_add (k := k) HP.out hN1)
      have HT2 := hid_of (htb.out.alloc R (.cells #[.int .i64 p] 3))
      have HL2 := hid_of (lit1 wr p)
      have HK2 : Hid (Kept (fun k => W.heap.size ≤ k) W (wr.alloc (.cells #[.int .i64 p] 3))) := hkp.out.trans (Kept.alloc _ _ _)
      have HS : Hid (sumC (cntL N k) ≤ 1000000) := by show _ ≤ _; rw [cntL_sum hN1]; omega
      clear htb hkp
      go_wp2_with fail
      refine (tb_add R HT2.out (some ⟨wr.heap.size, 0, none⟩) 1 1 [p] rfl (by decide) HL2.out (fun x hx => by rw [List.mem_singleton.1 hx]; exact ⟨by omega, by omega⟩) (fun _ y hy => by cases hy; exact .inr rfl) HS.out true HC.out.1 (cntL N (k + 1)) HC.out.2).mono ?_
      rintro e w2 ⟨rfl, ht3, hk3⟩
      have HT3 : Hid (Tb Ti (fun k => k < W.heap.size) w2 b (cntL N (k + 1))) := ht3.less (fun k e => .inl e)
      have HK3 := hid_of (kept_in HK2.out hk3 (fun k hk => .inl hk))
      clear ht3 hk3 HT2 HL2 HK2
      go_wp2_with fail
      refine ⟨?_, by (simp [intOf]) <;> omega⟩
      first
        | exact ⟨k + 1, by omega, by go_num, HT3, HK3⟩
        | ((repeat apply Exists.intro); refine ⟨?_, rfl⟩; exact ⟨k + 1, by omega, by go_num, HT3, HK3⟩)
    · obtain rfl : k = M := by omega
      go_wp2_with fail
      go_loopw [10, 11, 12] (fun v _ _ ws => ∃ (j : Nat) (q : Int), j ≤ k ∧ q = (j : Int) - 1 ∧ v = .int .i64 q ∧ Hid (Tb Ti (fun k => k < W.heap.size) ws b (cntL N j)) ∧ Hid (Kept (fun k => W.heap.size ≤ k) W ws)) (fun v _ _ _ => (intOf v + 1).toNat)
      case atStart => exact ⟨k, (k : Int) - 1, Nat.le_refl _, rfl, rfl, htb, hkp⟩
      case round =>
        clear htb hkp
        obtain ⟨j, q, hj, hq, rfl, htb, hkp⟩ := hrel
        rcases j with _ | s
        · have hqb : decide (0 ≤ q) = false := decide_eq_false (by omega)
          have HLA := hid_of (cntL_last (N := N) HP.out hN1)
          have HS : Hid (sumC (cntL N 0) ≤ 1000000) := by show _ ≤ _; rw [cntL_sum hN1]; decide
          have HO1 := hid_of (cntL_out (N := N) (x := (N : Int)) (.inr (Int.le_refl _)))
          have HO2 := hid_of (cntL_out (N := N) (x := -1) (.inl (by decide)))
          clear hq
          go_wp2_with fail
          refine (tb_drop R htb.out p ⟨by omega, by omega⟩ HS.out 0 false HLA.out.1 (cntL N 0) HLA.out.2.1).mono ?_
          rintro e w2 ⟨rfl, ht2, hk2⟩
          have HT2 := hid_of (ht2.alloc R (.cells #[.int .i64 (N : Int)] 3))
          have HL2 := hid_of (lit1 w2 (N : Int))
          have HK2 : Hid (Kept (fun k => W.heap.size ≤ k) W (w2.alloc (.cells #[.int .i64 (N : Int)] 3))) := (kept_in hkp.out hk2 (fun k hk => hk)).trans (Kept.alloc _ _ _)
          clear ht2 hk2 htb hkp
          go_wp2_with fail
          refine (tb_add R HT2.out (some ⟨w2.heap.size, 0, none⟩) 1 1 [(N : Int)] rfl (by decide) HL2.out (fun x hx => by rw [List.mem_singleton.1 hx]; exact ⟨by omega, by omega⟩) (fun _ y hy => by cases hy; exact .inr rfl) HS.out false HO1.out.1 (cntL N 0) HO1.out.2.1).mono ?_
          rintro e w3 ⟨rfl, ht3, hk3⟩
          have HT3 : Hid (Tb Ti (fun k => k < W.heap.size ∨ k = w3.heap.size) (w3.alloc (.cells #[.int .i64 (-1)] 3)) b (cntL N 0)) := (ht3.less (Y := fun k => k < W.heap.size) (fun k e => .inl e)).alloc R _
          have HL3 := hid_of (lit1 w3 (-1))
          have HK3 : Hid (Kept (fun k => W.heap.size ≤ k) W (w3.alloc (.cells #[.int .i64 (-1)] 3))) := (kept_in HK2.out hk3 (fun k hk => .inl hk)).trans (Kept.alloc _ _ _)
          clear ht3 hk3 HT2 HL2 HK2
          go_wp2_with fail
          refine (tb_add R HT3.out (some ⟨w3.heap.size, 0, none⟩) 1 1 [-1] rfl (by decide) HL3.out (fun x hx => by rw [List.mem_singleton.1 hx]; exact ⟨by decide, by decide⟩) (fun _ y hy => by cases hy; exact .inr rfl) HS.out false HO2.out.1 (cntL N 0) HO2.out.2.1).mono ?_
          rintro e w4 ⟨rfl, ht4, hk4⟩
          have HT4 : Hid (Tb Ti (fun k => k < W.heap.size) w4 b (cntL N 0)) := ht4.less (fun k e => .inl e)
          have HK4 := hid_of (kept_in HK3.out hk4 (fun k hk => .inl hk))
          clear ht4 hk4 HT3 HL3 HK3
          go_wp2_with fail
          refine (tb_of O HT4.out p ⟨by omega, by omega⟩ 0 HLA.out.2.2).mono ?_
          rintro e w5 ⟨rfl, d5, rfl⟩
          have HT5 := hid_of ((HT4.out.draws R d5).alloc R (.cells #[.int .i64 i] 3))
          have HL5 := hid_of (lit1 (w4.drewN d5) i)
          have HK5 : Hid (Kept (fun k => W.heap.size ≤ k) W ((w4.drewN d5).alloc (.cells #[.int .i64 i] 3))) := (kept_draws HK4.out d5).trans (Kept.alloc _ _ _)
          have HI : Hid (∀ x ∈ [i], I64 x) := fun x hx => by rw [List.mem_singleton.1 hx]; exact ⟨hi1, hi2⟩
          clear HT4 HK4
          by_cases hin : 0 ≤ i ∧ i < (N : Int)
          · obtain ⟨h0, h1⟩ := hin
            have hb1 : decide (0 ≤ i) = true := decide_eq_true h0
            have hb2 : decide (i < (N : Int)) = true := decide_eq_true h1
            have HC1 := hid_of (cntL_one h0 h1)
            go_wp2_with fail
            refine (tb_add R HT5.out (some ⟨(w4.drewN d5).heap.size, 0, none⟩) 1 1 [i] rfl (by decide) HL5.out HI.out (fun _ y hy => by cases hy; exact .inr rfl) HS.out true HC1.out.1 _ rfl).mono ?_
            rintro e w6 ⟨rfl, ht6, hk6⟩
            have HT6 := hid_of ht6
            have HK6 := hid_of (kept_in HK5.out hk6 (fun k hk => .inl hk))
            clear ht6 hk6 HT5 HL5 HK5
            go_wp2_with fail
            refine (tb_of O HT6.out i ⟨hi1, hi2⟩ 1 HC1.out.2).mono ?_
            rintro e w7 ⟨rfl, d7, rfl⟩
            have HK7 := hid_of (kept_draws HK6.out d7)
            go_wp2_with fail
            refine (wakes12_any R _).mono ?_
            rintro e w8 ⟨rfl, hb8⟩
            have HK8 := hid_of (kept_new HK7.out hb8 HK7.out.size)
            clear hb8
            go_wp2_with fail
            go_ret
            exact ⟨rfl, kept_end HK8.out⟩
          · have hway : (decide (0 ≤ i) = false ∧ True) ∨ (decide (0 ≤ i) = true ∧ decide (i < (N : Int)) = false) := by
              by_cases e : 0 ≤ i
              · exact .inr ⟨decide_eq_true e, decide_eq_false (by omega)⟩
              · exact .inl ⟨decide_eq_false e, trivial⟩
            have HCO := hid_of (cntL_out (N := N) (x := i) (by omega))
            clear hin
            rcases hway with ⟨hb1, hb2⟩ | ⟨hb1, hb2⟩
            all_goals
              go_wp2_with fail
              refine (tb_add R HT5.out (some ⟨(w4.drewN d5).heap.size, 0, none⟩) 1 1 [i] rfl (by decide) HL5.out HI.out (fun _ y hy => by cases hy; exact .inr rfl) HS.out false HCO.out.1 (cntL N 0) HCO.out.2.1).mono ?_
              rintro e w6 ⟨rfl, ht6, hk6⟩
              have HT6 := hid_of ht6
              have HK6 := hid_of (kept_in HK5.out hk6 (fun k hk => .inl hk))
              clear ht6 hk6 HT5 HL5 HK5
              go_wp2_with fail
              refine (tb_of O HT6.out i ⟨hi1, hi2⟩ 0 HCO.out.2.2).mono ?_
              rintro e w7 ⟨rfl, d7, rfl⟩
              have HK7 := hid_of (kept_draws HK6.out d7)
              go_wp2_with fail
              refine (wakes12_any R _).mono ?_
              rintro e w8 ⟨rfl, hb8⟩
              have HK8 := hid_of (kept_new HK7.out hb8 HK7.out.size)
              clear hb8
              go_wp2_with fail
              go_ret
              exact ⟨rfl, kept_end HK8.out⟩
        · obtain rfl : q = (s : Int) := by omega
          have HDR := hid_of (cntL_drop (k := s) HP.out hN1)
          have HS : Hid (sumC (cntL N (s + 1)) ≤ 1000000) := by show _ ≤ _; rw [cntL_sum hN1]; omega
          have hss : ((s : Int) != (s : Int)) = false := by simp
          have hqb : decide (0 ≤ (s : Int)) = true := decide_eq_true (by omega)
          clear hq
          go_wp2_with fail
          refine (tb_drop R htb.out p ⟨by omega, by omega⟩ HS.out s true HDR.out.1 (cntL N s) HDR.out.2).mono ?_
          rintro e w2 ⟨rfl, ht2, hk2⟩
          have HT2 := hid_of ht2
          have HK2 := hid_of (kept_in hkp.out hk2 (fun k hk => hk))
          clear ht2 hk2 htb hkp
          go_wp2_with fail
          refine ⟨?_, by (simp [intOf]) <;> omega⟩
          first
            | exact ⟨s, (s : Int) - 1, by omega, rfl, rfl, HT2, HK2⟩
            | ((repeat apply Exists.intro); refine ⟨?_, rfl⟩; exact ⟨s, (s : Int) - 1, by omega, rfl, rfl, HT2, HK2⟩)

end Go.Proofs.Ytcbenfmffedioaa

/- A table, and a row of numbers of one's own beside it. -/
namespace Go.Proofs.Ytcbenfmffedioaa
set_option linter.unusedVariables false
set_option linter.unusedSimpArgs false
open Go.RowKit Dg

/-- Both lie behind W; the row is none of the table's blocks. -/
structure Rx (Ti : TbP) (W w : World) (b : Nat) (C : List Nat) (xv : Value) (xs : List Int) : Prop where
  tb : Tb Ti (fun k => k < W.heap.size ∨ xv.ownBlock = some k) w b C
  row : OwnInts w W.heap.size xv xs
  kp : Kept (fun k => W.heap.size ≤ k) W w
theorem Rx.newer {Ti : TbP} (R : Rfs Ti) {W w w' : World} {b : Nat} {C : List Nat} {xv : Value} {xs : List Int} (h : Rx Ti W w b C xv xs) (hb : Below w.heap.size w w') : Rx Ti W w' b C xv xs :=
  ⟨h.tb.newer R hb, h.row.below hb (fun k e => (World.ownsRow.lt h.row k e).2), kept_new h.kp hb h.kp.size⟩
theorem Rx.draws {Ti : TbP} (R : Rfs Ti) {W w : World} {b : Nat} {C : List Nat} {xv : Value} {xs : List Int} (h : Rx Ti W w b C xv xs) (n : Nat) : Rx Ti W (w.drewN n) b C xv xs := h.newer R (below_drewN (Below.refl _ _) n)
theorem Rx.turned {Ti : TbP} {W w w' : World} {b : Nat} {C C' : List Nat} {xv : Value} {xs : List Int} (h : Rx Ti W w b C xv xs) (ht : Tb Ti (fun k => k < W.heap.size ∨ xv.ownBlock = some k) w' b C') (hk : Kept (fun k => ¬ (k < W.heap.size ∨ xv.ownBlock = some k)) w w') : Rx Ti W w' b C' xv xs :=
  ⟨ht, ownsRow_other h.row hk (fun k e e2 => e2 (.inr e)), kept_in h.kp hk (fun k hk => .inl hk)⟩
theorem Rx.start {Ti : TbP} {W w : World} {b : Nat} {C : List Nat} (h : Tb Ti (fun k => k < W.heap.size) w b C) (hk : Kept (fun k => W.heap.size ≤ k) W w) : Rx Ti W w b C (.slice none 0 0) [] :=
  ⟨h.less (fun k e => by rcases e with e | e; exact e; cases e), OwnInts.nil _ _, hk⟩
/-- 'append(x, n)' of one number that was just built. -/
theorem wpList_append_rx {P : Program} {Ti : TbP} (R : Rfs Ti) (W w0 : World) {ops : Array Oper} {rest : List Oper} {o : Oper} {a : Act} {Q : Exit → Act → World → Prop}
    (hgd : o.guard = none) (s x : Operand) (t : TypeId) (ho : o.op = .call { callee := .builtin .append, args := #[s, x], argTypes := #[t, t] })
    (i : TypeInfo) (ht : P.underlying t = some (.slice 3)) (hi : P.info? 3 = some i) (hz : i.zero = some (.int .i64 0)) (hsize : i.size = 1) (hby : i.bytes = 8)
    (b : Nat) (C : List Nat) (xv : Value) (xs : List Int) (hs : a.eval s = xv) (hr : Rx Ti W w0 b C xv xs) (y : Int) (hx : a.eval x = .slice (some ⟨w0.heap.size, 0, none⟩) 1 1)
    (hl : xs.length ≤ 1000000)
    (h : ∀ v' w', Hid (Rx Ti W w' b C v' (xs ++ [y])) → wpList P ops Q rest (a.put o.dst v') w') : wpList P ops Q (o :: rest) a (w0.alloc (.cells #[.int .i64 y] 3)) := by
  have hbs : W.heap.size ≤ w0.heap.size := hr.kp.size
  refine wpList_append_mine _ hgd s x t ho W.heap.size 3 i (.int .i64 0) 1 8 ht hi hz hsize hby rfl (by decide) xv xs.length (i64s xs) hs (World.ownsRow.alloc hr.row _) ⟨w0.heap.size, 0, none⟩ 1 1 [.int .i64 y] hx rfl ?c1 ?c2 (by decide) ?b1 ?b2 ?b3 ?_
  case c1 => intro j u hj; match j, hj with | 0, hj => simp at hj; subst hj; simp [Addr.add]
  case c2 => intro u hu; simp at hu; subst hu; rfl
  case b1 => unfold maxLen; omega
  case b2 => omega
  case b3 => simp; omega
  intro g cap w' H1 HG HN
  have hk : Kept (fun k => xv.ownBlock = some k ∨ w0.heap.size ≤ k) w0 w' := by
    have e1 : Kept (fun k => xv.ownBlock = some k ∨ w0.heap.size ≤ k) w0 (w0.alloc (.cells #[.int .i64 y] 3)) := Kept.alloc _ _ _
    exact e1.trans ((Kept.grown HG.out).mono (fun k _ e => .inl e))
  have hg := World.ownsRow.lt H1.out g rfl
  refine h _ w' ⟨?_, ?_, ?_⟩
  · refine hr.tb.keep R (hk.mono (fun k _ e => by
      rcases e with e | e
      · exact .inl (.inr e)
      · exact .inr e)) (fun k e => ?_)
    rcases e with e | e
    · exact .inl (.inl e)
    · have e3 : g = k := by simpa [Value.ownBlock] using e
      subst e3
      rcases HN.out with e4 | e4
      · exact .inl (.inr e4)
      · have e5 : w0.heap.size ≤ (w0.alloc (.cells #[.int .i64 y] 3)).heap.size := by simp
        exact .inr ⟨by omega, hg.2⟩
  · show World.ownsRow _ _ _ _ _ _ _
    have := H1.out
    simpa [i64s] using this
  · exact hr.kp.trans (hk.mono (fun k _ e => by
      rcases e with e | e
      · exact (World.ownsRow.lt hr.row k e).1
      · omega))
/-- Add of the row, or of a part of it. -/
theorem rx_add {Ti : TbP} (R : Rfs Ti) {W w : World} {b : Nat} {C : List Nat} {a : Option Addr} {N cap0 : Nat} {xs : List Int} (h : Rx Ti W w b C (.slice a N cap0) xs) (l : List Int) (a2 : Option Addr) (n cap : Nat) (hl : l.length = n) (hn : n ≤ 100000) (ha : IntsAt w a2 l) (h64 : ∀ x ∈ l, I64 x) (hX : l ≠ [] → ∀ y, a2 = some y → y.block < W.heap.size ∨ (Value.slice a N cap0).ownBlock = some y.block) (hC : sumC C ≤ 1000000) (ok : Bool) (hok : ok = okZ C l) (C2 : List Nat) (hC2 : C2 = addS C l) :
    Calls Try.prog 9 #[.pointer (some ⟨b, 0, none⟩), .slice a2 n cap] w fun e w' => e = .returned (.bool ok) ∧ Rx Ti W w' b C2 (.slice a N cap0) xs :=
  (tb_add R h.tb a2 n cap l hl hn ha h64 hX hC ok hok C2 hC2).mono fun e w' ⟨h1, h2, h3⟩ => ⟨h1, h.turned h2 h3⟩
/-- Add of a row that was made since. -/
theorem rx_add_new {Ti : TbP} (R : Rfs Ti) {W w w7 : World} {b : Nat} {C : List Nat} {xv : Value} {xs : List Int} (h : Rx Ti W w b C xv xs) (hb : Below w.heap.size w w7) (l : List Int) (a2 : Option Addr) (n cap : Nat) (ho : OwnInts w7 w.heap.size (.slice a2 n cap) l) (hl : l.length = n) (hn : n ≤ 100000) (h64 : ∀ x ∈ l, I64 x) (hC : sumC C ≤ 1000000) (ok : Bool) (hok : ok = okZ C l) (C2 : List Nat) (hC2 : C2 = addS C l) :
    Calls Try.prog 9 #[.pointer (some ⟨b, 0, none⟩), .slice a2 n cap] w7 fun e w' => e = .returned (.bool ok) ∧ Rx Ti W w' b C2 xv xs := by
  have h7 := h.newer R hb
  have ht : Tb Ti (fun k => (k < W.heap.size ∨ xv.ownBlock = some k) ∨ (Value.slice a2 n cap).ownBlock = some k) w7 b C := by
    refine h.tb.keep R ⟨hb.os, hb.tape, hb.output, hb.size, fun k hk hf => hb.block k (Nat.lt_of_not_le fun e => hf (.inr e))⟩ (fun k e => ?_)
    rcases e with e | e
    · exact .inl e
    · exact .inr (World.ownsRow.lt ho k e)
  have hi : IntsAt w7 a2 l := IntsAt.of_owns (show World.ownsRow _ _ _ _ _ _ _ from ho)
  refine (tb_add R ht a2 n cap l hl hn hi h64 (fun hne y hy => .inr (by rw [hy]; rfl)) hC ok hok C2 hC2).mono ?_
  rintro e w' ⟨h1, h2, h3⟩
  exact ⟨h1, h7.turned (h2.less (fun k e => .inl e)) (h3.mono (fun k _ e e2 => e (.inl e2)))⟩
theorem rx_drop {Ti : TbP} (R : Rfs Ti) {W w : World} {b : Nat} {C : List Nat} {xv : Value} {xs : List Int} (h : Rx Ti W w b C xv xs) (i : Int) (hi : I64 i) (hC : sumC C ≤ 1000000) (left : Nat) (ok : Bool) (hR : dropR C i = (left, ok)) (C2 : List Nat) (hC2 : C2 = dropS C i) :
    Calls Try.prog 13 #[.pointer (some ⟨b, 0, none⟩), .int .i64 i] w fun e w' => e = .returned (.tuple #[.int .i64 (left : Int), .bool ok]) ∧ Rx Ti W w' b C2 xv xs :=
  (tb_drop R h.tb i hi hC left ok hR C2 hC2).mono fun e w' ⟨h1, h2, h3⟩ => ⟨h1, h.turned h2 h3⟩
theorem rx_sum {Ti : TbP} (R : Rfs Ti) {W w : World} {b : Nat} {C : List Nat} {xv : Value} {xs : List Int} (h : Rx Ti W w b C xv xs) (hC : sumC C ≤ 1000000) (x : Nat) (hx : x = sumC C) :
    Calls Try.prog 10 #[.pointer (some ⟨b, 0, none⟩)] w fun e w' => e = .returned (.int .i64 (x : Int)) ∧ Rx Ti W w' b C xv xs :=
  (tb_sum R h.tb hC x hx).mono fun e w' ⟨h1, k, h2⟩ => ⟨h1, by rw [h2]; exact h.draws R k⟩

end Go.Proofs.Ytcbenfmffedioaa

/- RefsBack over the bundle. -/
namespace Go.Proofs.Ytcbenfmffedioaa
set_option linter.unusedVariables false
set_option linter.unusedSimpArgs false
open Go.RowKit Dg

/-- Numbers below N. -/
def allN (N : Nat) (xs : List Int) : Prop := ∀ x ∈ xs, 0 ≤ x ∧ x < (N : Int)
theorem allN.snoc {N : Nat} {xs : List Int} {y : Int} (h : allN N xs) (hy : 0 ≤ y ∧ y < (N : Int)) : allN N (xs ++ [y]) := fun x hx => by
  rcases List.mem_append.1 hx with e | e
  · exact h x e
  · rw [List.mem_singleton.1 e]; exact hy
theorem allN.ok {N : Nat} {xs : List Int} (h : allN N xs) {C : List Nat} (hC : C.length = N) : ∀ x ∈ xs, isSec C x := fun x hx => by
  unfold isSec
  rw [hC]
  exact h x hx
theorem allN.add {N : Nat} {xs : List Int} (h : allN N xs) {C : List Nat} (hC : C.length = N) : true = okZ C xs ∧ addZ C xs = addS C xs := by
  have e := (okZ_iff C xs).2 (h.ok hC)
  refine ⟨e.symm, ?_⟩
  unfold addS
  rw [if_pos e]
theorem bad_add {C : List Nat} {xs : List Int} {y : Int} (hy : ¬ isSec C y) : false = okZ C (xs ++ [y]) ∧ C = addS C (xs ++ [y]) := by
  have h : okZ C (xs ++ [y]) = false := by
    cases h : okZ C (xs ++ [y]) with
    | false => rfl
    | true => exact absurd ((okZ_iff _ _).1 h y (by simp)) hy
  refine ⟨h.symm, ?_⟩
  unfold addS
  rw [h]; rfl
theorem own_none (n : Nat) : ∀ j, ownTo (List.replicate n 0) j = []
  | 0 => rfl
  | j + 1 => by
    unfold ownTo
    rw [own_none n j]
    have e : (List.replicate n 0).getD j 0 = 0 := by
      rw [List.getD_eq_getElem?_getD, List.getElem?_replicate]
      split <;> rfl
    rw [e]; rfl
/-- One is dropped from the end. -/
theorem drop_step {N : Nat} {xs : List Int} (h : allN N xs) {j : Nat} {x : Int} (hx : xs[j]? = some x) : ∃ left, dropR (addZ (List.replicate N 0) (xs.take (j + 1))) x = (left, true) ∧ addZ (List.replicate N 0) (xs.take j) = dropS (addZ (List.replicate N 0) (xs.take (j + 1))) x := by
  have e : xs.take (j + 1) = xs.take j ++ [x] := by rw [List.take_add_one, hx]; rfl
  have hs : isSec (List.replicate N 0) x := by
    unfold isSec
    rw [List.length_replicate]
    exact h x (List.mem_of_getElem? hx)
  obtain ⟨h1, h2⟩ := drop_last (l := xs.take j) hs
  rw [e]
  exact ⟨_, h1, h2.symm⟩
theorem sum_take {N : Nat} {xs : List Int} (h : allN N xs) (j : Nat) (hj : j ≤ xs.length) : sumC (addZ (List.replicate N 0) (xs.take j)) = j := by
  rw [sumC_add _ _ (fun x hx => by
    unfold isSec
    rw [List.length_replicate]
    exact h x (List.mem_of_mem_take hx)), show sumC (List.replicate N 0) = 0 from sumTo_nought N _, List.length_take]
  omega
set_option maxRecDepth 100000 in
set_option maxHeartbeats 8000000 in
theorem rfback_any {Ti : TbP} (R : Rfs Ti) (OW : RfOwned Ti) (W : World) (a : Option Addr) (len cap : Nat) (zs : List Int) (bad : Int) (hr : IsRow .i64 W a len cap zs) (hb : I64 bad) :
    Calls Try.prog 3 #[.slice a len cap, .int .i64 bad] W fun e W' => e = .returned (.bool true) ∧ Below W.heap.size W W' := by
  obtain ⟨i0, hi, hz0, hz1, hz2⟩ := info_parts Try.info3
  obtain ⟨l, hl, hl64, hla, hlc, hcm, -, -⟩ := hr.ints
  unfold maxLen at hcm
  obtain ⟨hb1, hb2⟩ := hb
  have HLA : Hid (∀ j, j < len → ∃ x, I64 x ∧ ∃ b off, a = some ⟨b, off, none⟩ ∧ ∀ w : World, Kept (fun k => W.heap.size ≤ k) W w → w.cell? ⟨b, off + j, none⟩ = some (.int .i64 x)) := fun j hj => by
    obtain ⟨x, hx⟩ : ∃ x, l[j]? = some x := ⟨_, List.getElem?_eq_getElem (by omega)⟩
    obtain ⟨b, off, e, hc⟩ := hla j x hx
    have hbl := World.block_lt_of_cell? W _ hc
    exact ⟨x, hl64 x (List.mem_of_getElem? hx), b, off, e, fun w hw => (hw.cell hbl (Nat.not_le.2 hbl)).trans hc⟩
  clear hla hl64 hr hl
  go_enter Try.func3, Try.ntmps3
  go_wp2_with fail
  refine (tb_new R W 10 (by decide) (by decide)).mono ?_
  rintro e w1 ⟨b, rfl, ht1, hb1⟩
  obtain ⟨C0, hC0⟩ : ∃ C0, C0 = List.replicate 10 0 := ⟨_, rfl⟩
  have HC0 := hid_of hC0
  rw [← hC0] at ht1
  have HR1 : Hid (Rx Ti W w1 b C0 (.slice none 0 0) []) := Rx.start ht1 (kept_new (Kept.refl _ _) hb1 (Nat.le_refl _))
  have HE : Hid (allN 10 ([] : List Int)) := fun x hx => by cases hx
  clear ht1 hb1 hC0
  go_wp2_with fail
  go_loopw [7, 8] (fun xv v wr => ∃ (j : Nat) (xs : List Int), j ≤ len ∧ v = .int .i64 (j : Int) ∧ xs.length ≤ 20 ∧ Hid (xs.length = j) ∧ Hid (allN 10 xs) ∧ Hid (Rx Ti W wr b C0 xv xs)) (fun _ v _ => len - (intOf v).toNat)
  case atStart => exact ⟨0, [], Nat.zero_le _, rfl, by decide, rfl, HE, HR1⟩
  case round =>
    obtain ⟨j, xs, hj, rfl, hx20, hxl, hall, hrx⟩ := hrel
    have hway : (decide ((j : Int) < (len : Int)) = true ∧ decide ((j : Int) < 20) = true ∧ j < len ∧ j < 20) ∨ ((decide ((j : Int) < (len : Int)) = true ∧ decide ((j : Int) < 20) = false ∧ j < len) ∨ (decide ((j : Int) < (len : Int)) = false ∧ decide (j < len) = false ∧ True)) := by
      by_cases e1 : j < len
      · by_cases e2 : j < 20
        · exact .inl ⟨decide_eq_true (by omega), decide_eq_true (by omega), e1, e2⟩
        · exact .inr (.inl ⟨decide_eq_true (by omega), decide_eq_false (by omega), e1⟩)
      · exact .inr (.inr ⟨decide_eq_false (by omega), decide_eq_false e1, trivial⟩)
    rcases hway with ⟨hd1, hd2, hj1, hj2⟩ | hout
    · obtain ⟨x, ⟨hx1, hx2⟩, bb, off, rfl, hcl⟩ := HLA.out j hj1
      have hc := hcl wr hrx.out.kp
      obtain ⟨y, hy⟩ : ∃ y : Int, y = x % 10 := ⟨_, rfl⟩
      have hy0 : 0 ≤ y ∧ y < ((10 : Nat) : Int) := by omega
      have HW : Hid (Calls Try.prog 8 #[.int .i64 x, .int .i64 10] wr fun e w' => e = .returned (.int .i64 y) ∧ wr = w') := by rw [hy]; exact within_any x 10 wr hx1 hx2 (by decide) (by decide)
      have HAL := hid_of (hall.out.snoc hy0)
      have hlx : xs.length ≤ 1000000 := by omega
      have HL2 : Hid ((xs ++ [y]).length = j + 1) := by show _ = _; rw [List.length_append, hxl.out]; rfl
      have HL3 : Hid ((xs ++ [y]).length ≤ 20) := by show _ ≤ _; rw [HL2.out]; omega
      clear hcl hy
      go_wp2_with fail
      refine HW.out.mono ?_
      rintro e w2 ⟨rfl, rfl⟩
      go_wp2_with (at_builtin; go_must (refine wpList_append_rx R W wr rfl (.tmp 34) (.tmp 40) 22 rfl i0 Try.underlying22 hi hz0 hz1 hz2 b C0 _ xs (by rfl) hrx.out y (by rfl) hlx ?_))
      intro v2 w3 HR3
      have HR3' := hid_of HR3.out
      clear HR3 hrx
      go_wp2_with fail
      refine ⟨?_, by (simp [intOf]) <;> omega⟩
      first
        | exact ⟨j + 1, _, by omega, by go_num, HL3.out, HL2, HAL, HR3'⟩
        | ((repeat apply Exists.intro); refine ⟨?_, rfl⟩; exact ⟨j + 1, _, by omega, by go_num, HL3.out, HL2, HAL, HR3'⟩)
    · rcases hout with ⟨hd1, hd2, hj1⟩ | ⟨hd1, hd2, hj1⟩
      all_goals
        obtain ⟨ax, cx, hxv, hia, hform⟩ := hrx.out.row.slice
        rw [hxl.out] at hxv
        subst hxv
        have hC0l : C0.length = 10 := by rw [HC0.out]; rfl
        have hC0s : sumC C0 = 0 := by rw [HC0.out]; exact sumTo_nought 10 _
        have HAD := hid_of (hall.out.add hC0l)
        obtain ⟨C1, hC1⟩ : ∃ C1, C1 = addZ C0 xs := ⟨_, rfl⟩
        have HC1 := hid_of hC1
        have HC1l : Hid (C1.length = 10) := by show _ = _; rw [hC1, length_addZ, hC0l]
        have HC1s : Hid (sumC C1 = j) := by show _ = _; rw [hC1, sumC_add xs C0 (hall.out.ok hC0l), hC0s, hxl.out, Nat.zero_add]
        have hj20 : j ≤ 20 := by rw [← hxl.out]; exact hx20
        have H64 : Hid (∀ x ∈ xs, I64 x) := fun x hx => by have := hall.out x hx; exact ⟨by omega, by omega⟩
        have HS0 : Hid (sumC C0 ≤ 1000000) := by show _ ≤ _; rw [hC0s]; exact Nat.zero_le _
        have HS1 : Hid (sumC C1 ≤ 1000000) := by show _ ≤ _; rw [HC1s.out]; omega
        have HFO := hid_of hform
        have hjj : ((j : Int) != (j : Int)) = false := by simp
        have hjj2 : ((j : Int) == (j : Int)) = true := by simp
        have HIA := hid_of hia
        clear hform hC1 hC0l hC0s hia
        go_wp2_with fail
        refine (rx_add R hrx.out xs ax j cx hxl.out (by omega) HIA.out H64.out (fun _ y hy => .inr (by rw [hy]; rfl)) HS0.out true HAD.out.1 C1 (by rw [HC1.out]; exact HAD.out.2)).mono ?_
        rintro e w2 ⟨rfl, hr2⟩
        have HR2 := hid_of hr2
        clear hr2 hrx HIA
        go_wp2_with fail
        refine (rx_sum R HR2.out HS1.out j HC1s.out.symm).mono ?_
        rintro e w3 ⟨rfl, hr3⟩
        have HR3 := hid_of hr3
        clear hr3 HR2
        by_cases hbad : 0 ≤ bad ∧ bad < 10
        · have hb3 : decide (0 ≤ bad) = true := decide_eq_true hbad.1
          have hb4 : decide (bad < 10) = true := decide_eq_true hbad.2
          clear hbad
          go_wp2_with fail
          refine (rx_sum R HR3.out HS1.out j HC1s.out.symm).mono ?_
          rintro e w4 ⟨rfl, hr4⟩
          have HK4 := hid_of hr4.kp
          clear hr4 HR3
          go_wp2_with fail
          refine (wakes12_any R _).mono ?_
          rintro e w5 ⟨rfl, hb5⟩
          have HK5 := hid_of (kept_new HK4.out hb5 HK4.out.size)
          clear hb5
          go_wp2_with fail
          go_ret
          exact ⟨rfl, kept_end HK5.out⟩
        · have hbw : (decide (0 ≤ bad) = false ∧ True) ∨ (decide (0 ≤ bad) = true ∧ decide (bad < 10) = false) := by
            by_cases e : 0 ≤ bad
            · exact .inr ⟨decide_eq_true e, decide_eq_false (by omega)⟩
            · exact .inl ⟨decide_eq_false e, trivial⟩
          have hnb : ¬ isSec C1 bad := fun h => by
            unfold isSec at h
            rw [HC1l.out] at h
            omega
          have HBA := hid_of (bad_add (xs := xs) hnb)
          have H64b : Hid (∀ x ∈ xs ++ [bad], I64 x) := fun x hx => by
            rcases List.mem_append.1 hx with e | e
            · exact H64.out x e
            · rw [List.mem_singleton.1 e]; exact ⟨hb1, hb2⟩
          have hlx : xs.length ≤ 1000000 := by rw [hxl.out]; omega
          clear hbad hnb
          rcases hbw with ⟨hb3, hb4⟩ | ⟨hb3, hb4⟩
          all_goals
            have HIA3 : Hid (IntsAt w3 ax xs) := IntsAt.of_owns (show World.ownsRow _ _ _ _ _ _ _ from HR3.out.row)
            have HCP := hid_of (copyInt_any w3 ax cx xs HIA3.out hlx (by rcases HFO.out with e | ⟨g, e, -⟩; exact .inl e; exact .inr ⟨g, e⟩))
            rw [hxl.out] at HCP
            go_wp2_with fail
            refine HCP.out.mono ?_
            rintro e w4 ⟨v4, rfl, ho4, hb4'⟩
            have HO4 := hid_of ho4
            have HB4 := hid_of hb4'
            have hs4 := HB4.out.size
            clear ho4 hb4' HCP
            go_wp2_with (at_builtin; go_must (refine wpList_append_int w4 rfl (.tmp 79) (.tmp 81) 22 rfl w3.heap.size i0 Try.underlying22 hi hz0 hz1 hz2 v4 xs (by rfl) HO4.out bad (by rfl) hlx hs4 ?_))
            intro v7 w7 HO7 HB7
            have HB7' : Hid (Below w3.heap.size w3 w7) := HB4.out.trans HB7.out
            obtain ⟨a7, c7, hv7, -, -⟩ := HO7.out.slice
            have hl7 : (xs ++ [bad]).length = j + 1 := by rw [List.length_append, hxl.out]; rfl
            rw [hl7] at hv7
            subst hv7
            have HL7 := hid_of hl7
            have HADD := hid_of (rx_add_new R HR3.out HB7'.out (xs ++ [bad]) a7 (j + 1) c7 HO7.out hl7 (by omega) H64b.out HS1.out false HBA.out.1 C1 HBA.out.2)
            clear HO4 HB4 HB7 hl7
            go_wp2_with fail
            refine HADD.out.mono ?_
            rintro e w8 ⟨rfl, hr8⟩
            have HR8 := hid_of hr8
            clear hr8 HADD HO7 HR3 HIA3
            go_wp2_with fail
            refine (rx_sum R HR8.out HS1.out j HC1s.out.symm).mono ?_
            rintro e w9 ⟨rfl, hr9⟩
            have HR9 : Hid (Rx Ti W w9 b (addZ C0 (xs.take j)) (.slice ax j cx) xs) := by
              show Rx _ _ _ _ _ _ _
              rw [← hxl.out, List.take_length, ← HC1.out, hxl.out]; exact hr9
            clear hr9 HR8
            go_wp2_with fail
            go_loopw [9, 10, 11, 93] (fun _ _ _ v ws => ∃ (i q : Nat), i ≤ j ∧ v = .int .i64 (i : Int) ∧ Hid (q = j - i) ∧ Hid (Rx Ti W ws b (addZ C0 (xs.take q)) (.slice ax j cx) xs)) (fun _ _ _ v _ => j - (intOf v).toNat)
            case atStart => exact ⟨0, j, Nat.zero_le _, rfl, rfl, HR9⟩
            case round =>
              clear HR9
              obtain ⟨i, q, hij, rfl, hq, hrx⟩ := hrel
              by_cases hil : i < j
              · obtain ⟨p, hp⟩ : ∃ p, q = p + 1 := ⟨q - 1, by have := hq.out; omega⟩
                subst hp
                have hpj : p < j := by have := hq.out; omega
                obtain ⟨j1, hj1'⟩ : ∃ j1, j = j1 + 1 := ⟨j - 1, by omega⟩
                have hjI : (j : Int) - 1 = (j1 : Int) := by omega
                have hpI : (j1 : Int) - (i : Int) = (p : Int) := by have := hq.out; omega
                obtain ⟨x, hx⟩ : ∃ x, xs[p]? = some x := ⟨_, List.getElem?_eq_getElem (by rw [hxl.out]; exact hpj)⟩
                have hax : ∃ gx, ax = some ⟨gx, 0, none⟩ := by
                  rcases HFO.out with ⟨-, e, -⟩ | ⟨g, e, -⟩
                  · rw [e] at hx; cases hx
                  · exact ⟨g, e⟩
                obtain ⟨gx, rfl⟩ := hax
                have hia2 : IntsAt wr (some ⟨gx, 0, none⟩) xs := IntsAt.of_owns (show World.ownsRow _ _ _ _ _ _ _ from hrx.out.row)
                obtain ⟨b5, o5, e5, hcx⟩ := hia2 p x hx
                cases e5
                rw [Nat.zero_add] at hcx
                have hx64 := H64.out x (List.mem_of_getElem? hx)
                obtain ⟨left, hd1', hd2'⟩ := drop_step hall.out hx
                rw [← HC0.out] at hd1' hd2'
                have HD1 := hid_of hd1'
                have HD2 := hid_of hd2'
                have hsq : sumC (addZ C0 (xs.take (p + 1))) = p + 1 := by rw [HC0.out]; exact sum_take hall.out (p + 1) (by rw [hxl.out]; omega)
                have hsp : sumC (addZ C0 (xs.take p)) = p := by rw [HC0.out]; exact sum_take hall.out p (by rw [hxl.out]; omega)
                have HSQ : Hid (sumC (addZ C0 (xs.take (p + 1))) ≤ 1000000) := by show _ ≤ _; rw [hsq]; omega
                have HSP : Hid (sumC (addZ C0 (xs.take p)) ≤ 1000000) := by show _ ≤ _; rw [hsp]; omega
                have HSP2 := hid_of hsp.symm
                have hpp : ((p : Int) != (p : Int)) = false := by simp
                have HQ2 : Hid (p = j - (i + 1)) := by show _ = _; have := hq.out; omega
                have HDR := hid_of (rx_drop R hrx.out x hx64 HSQ.out left true HD1.out _ HD2.out)
                clear hx hia2 hd1' hd2' hsq hsp hrx hj1' hq
                go_wp2_with fail
                refine HDR.out.mono ?_
                rintro e w4 ⟨rfl, hr4⟩
                have HR4 := hid_of hr4
                clear hr4 HDR
                go_wp2_with fail
                refine (rx_sum R HR4.out HSP.out p HSP2.out).mono ?_
                rintro e w5 ⟨rfl, hr5⟩
                have HR5 := hid_of hr5
                clear hr5 HR4
                go_wp2_with fail
                refine ⟨?_, by (simp [intOf]) <;> omega⟩
                first
                  | exact ⟨i + 1, p, by omega, by go_num, HQ2, HR5⟩
                  | ((repeat apply Exists.intro); refine ⟨?_, rfl⟩; exact ⟨i + 1, p, by omega, by go_num, HQ2, HR5⟩)
              · obtain rfl : i = j := by omega
                have hq0 : q = 0 := by have := hq.out; omega
                subst hq0
                have HR6 : Hid (Rx Ti W wr b (List.replicate 10 0) (.slice ax i cx) xs) := by
                  show Rx _ _ _ _ _ _ _
                  rw [← HC0.out]
                  exact hrx.out
                clear hrx hq
                go_wp2_with fail
                refine (rx_drop R HR6.out 3 ⟨by decide, by decide⟩ (by decide) 0 false (by decide) (List.replicate 10 0) (by decide)).mono ?_
                rintro e w4 ⟨rfl, hr4⟩
                have HR4 := hid_of hr4
                clear hr4 HR6
                go_wp2_with fail
                refine (tb_owned OW HR4.out.tb).mono ?_
                rintro e w5 ⟨v5, rfl, ho5, hb5⟩
                have HK5 := hid_of (kept_new HR4.out.kp hb5 HR4.out.kp.size)
                have e0 : ownTo (List.replicate 10 0) (List.replicate 10 0).length = [] := own_none 10 _
                rw [e0] at ho5
                obtain ⟨a5, c5, rfl, -, -⟩ := ho5.slice
                clear ho5 hb5 e0 HR4
                go_wp2_with fail
                refine (wakes12_any R _).mono ?_
                rintro e w6 ⟨rfl, hb6⟩
                have HK6 := hid_of (kept_new HK5.out hb6 HK5.out.size)
                clear hb6
                go_wp2_with fail
                go_ret
                exact ⟨rfl, kept_end HK6.out⟩

end Go.Proofs.Ytcbenfmffedioaa
