/- MapPlays. -/
import Derived.Test.YthbophecmpdpdaaDoorPart06
namespace Go.Proofs.YthbophecmpdpdaaDoor
set_option linter.unusedVariables false
set_option linter.unusedSimpArgs false
open Go.RowKit Dg

/-- Acts that came in, seen from a later world. -/
theorem acts_later {W w : World} {a : Option Addr} {len : Nat} {f : Nat → Int × Int × Int} {g gr : Nat} (h : ActsAt W a len f) (hw : Below W.heap.size W w) (hg : W.heap.size ≤ g) (hr : W.heap.size ≤ gr) : ∀ i, i < len → ActX w a g gr i := by
  intro i hi
  obtain ⟨bb, off, e, hl, h0, h1, h2, i1, i2, i3⟩ := h i hi
  refine ⟨_, _, _, bb, off, e, i1, i2, i3, fun w' hk => ?_⟩
  have hs := hw.size
  have key : ∀ o, w'.cell? ⟨bb, o, none⟩ = W.cell? ⟨bb, o, none⟩ := fun o => by
    rw [hk.cell (by omega) (fun x => by rcases x with x | x | x <;> omega), hw.cell (p := ⟨bb, o, none⟩) hl]
  rw [key, key, key]
  exact ⟨h0, h1, h2⟩
theorem PlO.keptP {w w' : World} {b g c gr cr n g2 gr2 : Nat} {m : List Bool} (h : PlO w b g c gr cr n m) (hk : Kept (plX w g2 gr2) w w') (hb : b ≠ g2 ∧ b ≠ gr2 ∧ g ≠ g2 ∧ g ≠ gr2 ∧ gr ≠ g2 ∧ gr ≠ gr2) (hG : g2 ≠ 0 ∧ gr2 ≠ 0) : PlO w' b g c gr cr n m := by
  obtain ⟨l1, l2, l3, l4⟩ := h.lt
  exact h.kept hk (fun x => by rcases x with x | x | x <;> omega) (fun x => by rcases x with x | x | x <;> omega) (fun x => by rcases x with x | x | x <;> omega) (fun x => by rcases x with x | x | x <;> omega)
theorem below_plX {W w w' : World} {g gr : Nat} (h : Below W.heap.size W w) (hk : Kept (plX w g gr) w w') (hg : W.heap.size ≤ g) (hr : W.heap.size ≤ gr) : Below W.heap.size W w' :=
  h.trans ⟨hk.os, hk.tape, hk.output, hk.size, fun k hkb => hk.block k (by have := h.size; omega) (fun x => by have := h.size; rcases x with x | x | x <;> omega)⟩
set_option maxRecDepth 100000 in
set_option maxHeartbeats 8000000 in
/-- Behind the two News. -/
theorem mplays_any (W : World) (hT : Tab W) (n : Int) (a1 : Option Addr) (len1 cap1 : Nat) (f1 : Nat → Int × Int × Int) (a2 : Option Addr) (len2 cap2 : Nat) (f2 : Nat → Int × Int × Int) (hn : I64 n) (hl1 : len1 ≤ maxLen) (ha1 : ActsAt W a1 len1 f1) (hl2 : len2 ≤ maxLen) (ha2 : ActsAt W a2 len2 f2) :
    Calls Tryd.prog 5 #[.int .i64 n, .slice a1 len1 cap1, .slice a2 len2 cap2] W fun e W' => e = .returned (.bool true) ∧ Below W.heap.size W W' := by
  obtain ⟨hn1, hn2⟩ := hn
  unfold maxLen at hl1 hl2
  obtain ⟨i0, hi, hz0, hz1, hz2⟩ := info_parts Tryd.infoBl
  have HA1 := hid_of ha1
  have HA2 := hid_of ha2
  have HT := hid_of hT
  have HW1 := hid_of (within_any n 300 W hn1 hn2 (by decide) (by decide))
  obtain ⟨q, hq⟩ : ∃ q : Int, q = if 300 < n ∧ n ≤ 4096 then n % 300 else n := ⟨_, rfl⟩
  have hway : ((decide (300 < n) = true ∧ decide (n ≤ 4096) = true) ∧ n % 300 = q) ∨ ((decide (300 < n) = true ∧ decide (n ≤ 4096) = false) ∧ n = q) ∨ ((decide (300 < n) = false ∧ True) ∧ n = q) := by
    by_cases e1 : 300 < n
    · by_cases e2 : n ≤ 4096
      · exact .inl ⟨⟨decide_eq_true e1, decide_eq_true e2⟩, by rw [hq, if_pos ⟨e1, e2⟩]⟩
      · exact .inr (.inl ⟨⟨decide_eq_true e1, decide_eq_false e2⟩, by rw [hq, if_neg (fun e => e2 e.2)]⟩)
    · exact .inr (.inr ⟨⟨decide_eq_false e1, trivial⟩, by rw [hq, if_neg (fun e => e1 e.1)]⟩)
  have hqb : (q < 1 ∨ 4096 < q) ∨ (1 ≤ q ∧ q ≤ 300) := by
    rw [hq]
    split <;> omega
  clear hq ha1 ha2 hT
  rcases hqb with hbad | hgood
  · have HN := hid_of (mnew_no W q hbad)
    have HR := hid_of (rmnew_no W q hbad)
    have HWK := hid_of (wakes11_any W HT.out)
    clear hbad
    rcases hway with ⟨⟨e1, e2⟩, rfl⟩ | ⟨⟨e1, e2⟩, rfl⟩ | ⟨⟨e1, e2⟩, rfl⟩
    all_goals
      go_enter Tryd.func5, Tryd.ntmps5
      go_wp2_with (first
        | (go_at_call 7; refine HW1.out.mono ?_; rintro e w1 ⟨rfl, rfl⟩)
        | (go_at_call 8; refine HN.out.mono ?_; rintro e w1 ⟨rfl, rfl⟩)
        | (go_at_call 17; refine HR.out.mono ?_; rintro e w1 ⟨rfl, rfl⟩)
        | (go_at_call 14; refine HWK.out.mono ?_; rintro e w1 ⟨rfl, hb1⟩; have HB1 := hid_of hb1; clear hb1))
      go_ret
      exact ⟨rfl, HB1.out⟩
  · obtain ⟨N, hN⟩ : ∃ N : Nat, q = (N : Int) := ⟨q.toNat, by omega⟩
    rw [hN] at hway
    have hN1 : 1 ≤ N := by omega
    have hN3 : N ≤ 300 := by omega
    have HN := hid_of (mo_new W W HT.out (Below.refl _ _) N hN1 (by omega))
    clear hN hgood
    rcases hway with ⟨⟨e1, e2⟩, e3⟩ | ⟨⟨e1, e2⟩, e3⟩ | ⟨⟨e1, e2⟩, e3⟩
    all_goals
      go_enter Tryd.func5, Tryd.ntmps5
      go_wp2_with (first
        | (go_at_call 7; refine HW1.out.mono ?_; rintro e w1 ⟨rfl, rfl⟩)
        | (go_at_call 8; (try rw [e3]); refine HN.out.mono ?_; rintro e w1 ⟨b, g, c, rfl, ho, -, -, -⟩; have HO := hid_of ho; clear ho))
      (try rw [e3])
      refine (rmnew_any w1 N hN1 (by omega)).mono ?_
      rintro e w2 ⟨gr, rfl, ho2, hb2⟩
      have HO2 : Hid (MpO W w2 b g c (List.replicate N false)) := HO.out.newer hb2
      have hgr : w1.heap.size ≤ gr ∧ gr < w2.heap.size := World.ownsRow.lt ho2 gr rfl
      have HP2 : Hid (PlO w2 b g c gr N N (List.replicate N false)) := by
        have h1 := HO.out.is.lt
        have h2 := HO.out.is.tab.lt
        refine ⟨HO2.out.is, ?_, by omega, by omega, by omega⟩
        have e : w2.ownsRow w1.heap.size 4 1 (.slice (some ⟨gr, 0, none⟩) N N) (List.replicate N false).length (bls (List.replicate N false)) := ho2
        rw [List.length_replicate] at e
        exact ownsRow_base e (Nat.zero_le _)
      have HGE : Hid (W.heap.size ≤ b ∧ W.heap.size ≤ g ∧ W.heap.size ≤ gr) := ⟨HO.out.hb, HO.out.hg, by have := HO.out.bel.size; omega⟩
      have HB2 := hid_of HO2.out.bel
      clear ho2 hb2 HO HN HW1 hgr
      go_wp2_with fail
      refine (same11_any w2 b g c _ ⟨gr, 0, none⟩ N N 0 1 HP2.out.is HP2.out.blat HP2.out.len ⟨by decide, by decide⟩ ⟨by decide, by decide⟩).mono ?_
      rintro e w3 ⟨rfl, hb3⟩
      have HP3 := hid_of (HP2.out.newer hb3)
      have HB3 : Hid (Below W.heap.size W w3) := HB2.out.trans (hb3.mono HB2.out.size)
      clear hb3 HP2 HB2 HO2
      go_wp2_with fail
      refine (play11_any w3 b g c gr N N _ a1 len1 cap1 HP3.out (by omega) (acts_later HA1.out HB3.out HGE.out.2.1 HGE.out.2.2)).mono ?_
      rintro e w4 ⟨rfl, ⟨m4, hp4⟩, hk4⟩
      have HP4 := hid_of hp4
      have HB4 := hid_of (below_plX HB3.out hk4 HGE.out.2.1 HGE.out.2.2)
      clear hp4 hk4 HP3 HB3
      go_wp2_with fail
      refine (mclone_is w4 b g c m4 HP4.out.is).mono ?_
      rintro e w5 ⟨b2, g2, c2, rfl, hm5, hb5, hg5, hw5⟩
      have HP5 := hid_of (HP4.out.newer hw5)
      have HM5 := hid_of hm5
      have HB5 : Hid (Below W.heap.size W w5) := HB4.out.trans (hw5.mono HB4.out.size)
      have hlt4 := HP4.out.lt
      have HD5 : Hid (b < b2 ∧ b < g2 ∧ g < b2 ∧ g < g2 ∧ gr < b2 ∧ gr < g2 ∧ W.heap.size ≤ g2 ∧ W.heap.size ≤ b2) := by
        have := HB4.out.size
        show _ ∧ _ ∧ _ ∧ _ ∧ _ ∧ _ ∧ _ ∧ _
        omega
      clear hm5 hb5 hg5 hw5 HP4 HB4 hlt4
      have HC5 : Hid (∀ j u, (bls m4)[j]? = some u → w5.cell? ((⟨gr, 0, none⟩ : Addr).add j) = some u) := fun j u hu => by
        rw [bls_get] at hu
        obtain ⟨x, hx, rfl⟩ := Option.map_eq_some_iff.1 hu
        have hadd : (⟨gr, 0, none⟩ : Addr).add j = ⟨gr, j, none⟩ := by simp [Addr.add] <;> omega
        rw [hadd]
        exact (bl_own_cell HP5.out.row hx).1
      have HL5 := hid_of HP5.out.len
      go_wp2_with (at_builtin; go_must (refine wpList_append_mine w5 rfl (.const (.slice none 0 0)) (.tmp 63) 41 rfl w5.heap.size 4 i0 (.bool false) 1 1 Tryd.underlying41 hi hz0 hz1 hz2 rfl (by decide) (.slice none 0 0) 0 [] rfl (OwnBls.nil _ _) ⟨gr, 0, none⟩ N N (bls m4) rfl ?c1 HC5.out (oneC_b m4) (by omega) ?b1 ?b2 (Nat.le_refl _) ?_))
      case c1 => rw [length_bls, HL5.out]; omega
      case b1 => unfold maxLen; omega
      case b2 => omega
      intro gr2 cr2 w6 H1 H2 H3
      have hr6 : w6.ownsRow w5.heap.size 4 1 (.slice (some ⟨gr2, 0, none⟩) N cr2) N (bls m4) := by
        have e := H1.out
        simpa using e
      have hw6 : Below w5.heap.size w5 w6 := (Below.refl _ _).grown H2.out (Nat.le_refl _) (fun k e => by cases e)
      have hg6 : w5.heap.size ≤ gr2 := (World.ownsRow.lt hr6 gr2 rfl).1
      have HP6 := hid_of (HP5.out.newer hw6)
      have hlt5 := HP5.out.lt
      have hlm5 := HM5.out.lt
      have HQ6 : Hid (PlO w6 b2 g2 c2 gr2 cr2 N m4) := by
        refine ⟨HM5.out.kept (below_kept hw6) (by omega) (by omega) (by omega), ownsRow_base hr6 (Nat.zero_le _), by omega, by omega, by omega⟩
      have HB6 : Hid (Below W.heap.size W w6) := HB5.out.trans (hw6.mono HB5.out.size)
      have HGR : Hid (W.heap.size ≤ gr2 ∧ b ≠ gr2 ∧ g ≠ gr2 ∧ gr ≠ gr2 ∧ gr2 ≠ 0) := by
        have := HB5.out.size
        show _ ∧ _ ∧ _ ∧ _ ∧ _
        omega
      have HG2 : Hid (g2 ≠ 0) := HM5.out.ne.2.2
      clear H1 H2 H3 hr6 hw6 hg6 HP5 HM5 HB5 HC5 hlt5 hlm5
      try rw [Nat.zero_add]
      go_wp2_with fail
      refine (play11_any w6 b2 g2 c2 gr2 cr2 N m4 a2 len2 cap2 HQ6.out (by omega) (acts_later HA2.out HB6.out HD5.out.2.2.2.2.2.2.1 HGR.out.1)).mono ?_
      rintro e w7 ⟨rfl, -, hk7⟩
      have HP7 : Hid (PlO w7 b g c gr N N m4) := by
        obtain ⟨d1, d2, d3, d4, d5, d6, d7, d8⟩ := HD5.out
        obtain ⟨q1, q2, q3, q4, q5⟩ := HGR.out
        exact HP6.out.keptP hk7 ⟨by omega, q2, by omega, q3, by omega, q4⟩ ⟨HG2.out, q5⟩
      have HB7 := hid_of (below_plX HB6.out hk7 HD5.out.2.2.2.2.2.2.1 HGR.out.1)
      clear hk7 HP6 HQ6 HB6
      go_wp2_with fail
      refine (same11_any w7 b g c m4 ⟨gr, 0, none⟩ N N 3 2 HP7.out.is HP7.out.blat HP7.out.len ⟨by decide, by decide⟩ ⟨by decide, by decide⟩).mono ?_
      rintro e w8 ⟨rfl, hb8⟩
      have HP8 := hid_of (HP7.out.newer hb8)
      have HB8 : Hid (Below W.heap.size W w8) := HB7.out.trans (hb8.mono HB7.out.size)
      clear hb8 HP7 HB7
      go_wp2_with fail
      refine (wakes11_any w8 HP8.out.is.tab).mono ?_
      rintro e w9 ⟨rfl, hb9⟩
      have HB9 : Hid (Below W.heap.size W w9) := HB8.out.trans (hb9.mono HB8.out.size)
      clear hb9
      go_wp2_with fail
      go_ret
      exact ⟨rfl, HB9.out⟩

end Go.Proofs.YthbophecmpdpdaaDoor
