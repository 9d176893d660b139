/- The texts MpPlay, MpActs, Ints, one behind the other. -/
import Derived.Test.YthbophecmpdpdaaDoorPart05
import Derived.Test.YthbophecmpdpdaaDoorPart01
import Derived.Laws.AppendOwnNone

/- Acts of both maps. -/
namespace Go.Proofs.YthbophecmpdpdaaDoor
set_option linter.unusedVariables false
set_option linter.unusedSimpArgs false
open Go.RowKit Dg

/-- Both maps, the document's as a row that may be written. -/
structure PlO (w : World) (b g c gr cr n : Nat) (m : List Bool) : Prop where
  is : MpIs w b g c m
  row : w.ownsRow 0 4 1 (.slice (some ⟨gr, 0, none⟩) n cr) n (bls m)
  ne : gr ≠ b ∧ gr ≠ g ∧ gr ≠ 0
theorem PlO.len {w : World} {b g c gr cr n : Nat} {m : List Bool} (h : PlO w b g c gr cr n m) : m.length = n := by have := h.row.1; simpa using this
theorem PlO.lt {w : World} {b g c gr cr n : Nat} {m : List Bool} (h : PlO w b g c gr cr n m) : b < w.heap.size ∧ g < w.heap.size ∧ gr < w.heap.size ∧ 0 < w.heap.size :=
  ⟨h.is.lt.1, h.is.lt.2, (World.ownsRow.lt h.row gr rfl).2, h.is.tab.lt⟩
theorem PlO.kept {w w' : World} {b g c gr cr n : Nat} {m : List Bool} {X : Nat → Prop} (h : PlO w b g c gr cr n m) (hk : Kept X w w') (h1 : ¬ X b) (h2 : ¬ X g) (h3 : ¬ X gr) (h4 : ¬ X 0) : PlO w' b g c gr cr n m :=
  ⟨h.is.kept hk h1 h2 h4, ownsRow_other h.row hk (fun k e => by cases e; exact h3), h.ne⟩
theorem PlO.newer {w w' : World} {b g c gr cr n : Nat} {m : List Bool} (h : PlO w b g c gr cr n m) (hb : Below w.heap.size w w') : PlO w' b g c gr cr n m := by
  obtain ⟨l1, l2, l3, l4⟩ := h.lt
  exact h.kept (below_kept hb) (by omega) (by omega) (by omega) (by omega)
theorem PlO.blat {w : World} {b g c gr cr n : Nat} {m : List Bool} (h : PlO w b g c gr cr n m) : BlAt w (some ⟨gr, 0, none⟩) m := fun j x hx => by
  refine ⟨gr, 0, rfl, ?_⟩
  rw [Nat.zero_add]
  exact (bl_own_cell h.row hx).1
/-- The map was set; the row follows. -/
theorem PlO.set {w w2 : World} {b g c gr cr n : Nat} {m : List Bool} (h : PlO w b g c gr cr n m) {k : Int} {u : Bool} (h2 : MpIs w2 b g c (setM m k u)) (hk : Kept (fun i => i = g) w w2) :
    (setsB m k u = false → PlO w2 b g c gr cr n (setM m k u)) ∧ ∀ j : Nat, k = (j : Int) → setsB m k u = true → PlO (w2.setCell ⟨gr, j, none⟩ (.bool u)) b g c gr cr n (setM m k u) := by
  have hr2 := ownsRow_other h.row hk (fun i e => by cases e; exact h.ne.2.1)
  refine ⟨fun hs => ?_, fun j hj hs => ?_⟩
  · have e : setM m k u = m := by unfold setM; rw [hs]; rfl
    rw [e] at h2 ⊢
    exact ⟨h2, hr2, h.ne⟩
  · subst hj
    have e : setM m (j : Int) u = m.set j u := by unfold setM; rw [if_pos hs, Int.toNat_natCast]
    rw [e] at h2 ⊢
    have hk2 : Kept (fun i => i = gr) w2 (w2.setCell ⟨gr, j, none⟩ (.bool u)) := Kept.setCell _ _ _ rfl
    have hjn : j < n := by
      have h5 : decide (0 ≤ (j : Int) ∧ (j : Int) < (m.length : Int)) = true := by
        unfold setsB at hs
        cases hd : decide (0 ≤ (j : Int) ∧ (j : Int) < (m.length : Int))
        · rw [hd] at hs; cases hs
        · rfl
      have := of_decide_eq_true h5
      have := h.len
      omega
    refine ⟨h2.kept hk2 (fun e => h.ne.1 e.symm) (fun e => h.ne.2.1 e.symm) (fun e => h.ne.2.2 e.symm), ?_, h.ne⟩
    rw [bls_set]
    exact ownsRow_set hr2 j hjn _
/-- What Set answers of a place. -/
theorem sets_out {m : List Bool} {k : Int} (u : Bool) (h : k < 0 ∨ (m.length : Int) ≤ k) : setsB m k u = false := by
  unfold setsB
  rw [decide_eq_false (by omega)]; rfl
theorem sets_in {m : List Bool} {j : Nat} {z : Bool} (u : Bool) (h : m[j]? = some z) : setsB m (j : Int) u = (z != u) := by
  have hj := (List.getElem?_eq_some_iff.1 h).1
  unfold setsB
  rw [decide_eq_true (by omega), usedZ_nat]
  unfold dgt
  rw [h]; rfl
/-- Taken. -/
theorem PlO.take {w w2 : World} {b g c gr cr n : Nat} {m : List Bool} {R : Int} (h : PlO w b g c gr cr n m) (hR : IsFirst m 0 R) (h2 : MpIs w2 b g c (if 0 ≤ R then m.set R.toNat true else m)) (hk : Kept (fun i => i = g) w w2) :
    (R = -1 → PlO w2 b g c gr cr n m) ∧ ∀ j : Nat, R = (j : Int) → PlO (w2.setCell ⟨gr, j, none⟩ (.bool true)) b g c gr cr n (m.set j true) := by
  have e0 := take_is hR
  rw [← e0] at h2
  have hp := h.set h2 hk
  refine ⟨fun e => ?_, fun j e => ?_⟩
  · have e1 : setsB m R true = false := sets_out true (.inl (by omega))
    have e2 := hp.1 e1
    have e3 : setM m R true = m := by rw [e0, if_neg (by omega)]
    rw [e3] at e2
    exact e2
  · subst e
    rcases hR with ⟨k, e5, e6, e7, e8⟩ | ⟨e5, -⟩
    · obtain rfl : j = k := by omega
      have e1 : setsB m (j : Int) true = true := by rw [sets_in true e7]; rfl
      have e2 := hp.2 j rfl e1
      have e3 : setM m (j : Int) true = m.set j true := by rw [e0, if_pos (by omega), Int.toNat_natCast]
      rw [e3] at e2
      exact e2
    · omega
/-- What the acts may turn. -/
def plX (w : World) (g gr : Nat) (k : Nat) : Prop := k = g ∨ k = gr ∨ w.heap.size ≤ k
/-- An act that came in. -/
def ActX (w : World) (a : Option Addr) (g gr : Nat) (i : Nat) : Prop := ∃ (xd xi xn : Int) (bb off : Nat), a = some ⟨bb, off, none⟩ ∧ I64 xd ∧ I64 xi ∧ I64 xn ∧ ∀ w' : World, Kept (plX w g gr) w w' → w'.cell? ⟨bb, off + i * 3, none⟩ = some (.int .i64 xd) ∧ w'.cell? ⟨bb, off + i * 3 + 1, none⟩ = some (.int .i64 xi) ∧ w'.cell? ⟨bb, off + i * 3 + 2, none⟩ = some (.int .i64 xn)
set_option maxRecDepth 100000 in
set_option maxHeartbeats 16000000 in
theorem play11_any (w : World) (b g c gr cr n : Nat) (m0 : List Bool) (a : Option Addr) (len cap : Nat) (h : PlO w b g c gr cr n m0) (hle : len ≤ 9223372036854775807) (hA : ∀ i, i < len → ActX w a g gr i) :
    Calls Tryd.prog 19 #[.pointer (some ⟨b, 0, none⟩), .slice (some ⟨gr, 0, none⟩) n cr, .slice a len cap] w fun e w' => e = .returned (.bool true) ∧ (∃ m, PlO w' b g c gr cr n m) ∧ Kept (plX w g gr) w w' := by
  have hn1 : 1 ≤ n := by have := h.is.pos; have := h.len; omega
  have hn4 : n ≤ 4096 := by have := h.is.le; have := h.len; omega
  have HA := hid_of hA
  have HP := hid_of h
  have HG : Hid (b < w.heap.size ∧ g < w.heap.size ∧ gr < w.heap.size ∧ 0 < w.heap.size) := h.lt
  clear h hA
  go_enter Tryd.func19, Tryd.ntmps19
  go_wp2_with fail
  go_loopw [7] (fun v wr => ∃ (i : Nat) (m : List Bool), i ≤ len ∧ v = .int .i64 (i : Int) ∧ Hid (PlO wr b g c gr cr n m) ∧ Hid (Kept (plX w g gr) w wr)) (fun v _ => len - (intOf v).toNat)
  case atStart => exact ⟨0, m0, Nat.zero_le _, rfl, HP, Kept.refl _ _⟩
  case round =>
    obtain ⟨i, m, hi, rfl, hp, hk⟩ := hrel
    by_cases hil : i < len
    · have hd1 : decide ((i : Int) < (len : Int)) = true := decide_eq_true (by omega)
      by_cases hi2 : i < 20
      · have hd2 : decide ((i : Int) < 20) = true := decide_eq_true (by omega)
        obtain ⟨xd, xi, xn, bb, off, rfl, ⟨i1, i2⟩, ⟨i3, i4⟩, ⟨i5, i6⟩, hcl⟩ := HA.out i hil
        obtain ⟨c0, c1, c2⟩ := hcl wr hk.out
        obtain ⟨w1, hw1⟩ : ∃ w1, w1 = wr.alloc (.cells #[.int .i64 xd, .int .i64 xi, .int .i64 xn] 58) := ⟨_, rfl⟩
        obtain ⟨bx, hbx⟩ : ∃ bx, bx = wr.heap.size := ⟨_, rfl⟩
        have hk1 : Kept (fun _ => False) wr w1 := by rw [hw1]; exact Kept.alloc _ _ _
        have HBX : Hid (w1.heap[bx]? = some (.cells #[.int .i64 xd, .int .i64 xi, .int .i64 xn] 58 (0, 0))) := by show _ = _; rw [hw1, hbx]; exact heap_alloc_new wr _
        have hbl : bx < w1.heap.size := by rw [hw1, hbx]; simp
        have hwb : w.heap.size ≤ bx := by rw [hbx]; exact hk.out.size
        obtain ⟨g1, g2, g3, g4⟩ := HG.out
        have HC : Hid (∀ w' X, Kept X w1 w' → ¬ X bx → w'.cell? ⟨bx, 0, none⟩ = some (.int .i64 xd) ∧ w'.cell? ⟨bx, 1, none⟩ = some (.int .i64 xi) ∧ w'.cell? ⟨bx, 2, none⟩ = some (.int .i64 xn)) := fun w' X hkX hX => by
          have e : w'.heap[bx]? = some (.cells #[.int .i64 xd, .int .i64 xi, .int .i64 xn] 58 (0, 0)) := by rw [hkX.block bx hbl hX]; exact HBX.out
          refine ⟨?_, ?_, ?_⟩ <;> (unfold World.cell?; rw [e]; rfl)
        have HP1 : Hid (PlO w1 b g c gr cr n m) := hp.out.kept hk1 (fun h => h) (fun h => h) (fun h => h) (fun h => h)
        have HK1 : Hid (Kept (plX w g gr) w w1) := hk.out.trans (hk1.mono (fun _ _ h => h.elim))
        have hbn : bx ≠ b ∧ bx ≠ g ∧ bx ≠ gr := by omega
        have HBN := hid_of hbn
        obtain ⟨x0, x1, x2⟩ := HC.out w1 _ (Kept.refl (fun _ => False) _) (fun h => h)
        obtain ⟨K, hK⟩ : ∃ K : Int, K = xi % ((n : Int) + 2) - 1 := ⟨_, rfl⟩
        have hK0 := Int.emod_nonneg xi (show (n : Int) + 2 ≠ 0 by omega)
        have hK1 := Int.emod_lt_of_pos xi (show 0 < (n : Int) + 2 by omega)
        obtain ⟨N, hN⟩ : ∃ N : Int, N = xn % 80 := ⟨_, rfl⟩
        obtain ⟨d, hd⟩ : ∃ d : Int, d = xd % 6 := ⟨_, rfl⟩
        have HW1 : Hid (Calls Tryd.prog 7 #[.int .i64 xi, .int .i64 ((n : Int) + 2)] w1 fun e w' => e = .returned (.int .i64 (xi % ((n : Int) + 2))) ∧ w1 = w') := within_any xi ((n : Int) + 2) w1 i3 i4 (by omega) (by omega)
        have HW2 : Hid (Calls Tryd.prog 7 #[.int .i64 xn, .int .i64 80] w1 fun e w' => e = .returned (.int .i64 N) ∧ w1 = w') := by rw [hN]; exact within_any xn 80 w1 i5 i6 (by decide) (by decide)
        have HW3 : Hid (Calls Tryd.prog 7 #[.int .i64 xd, .int .i64 6] w1 fun e w' => e = .returned (.int .i64 d) ∧ w1 = w') := by rw [hd]; exact within_any xd 6 w1 i1 i2 (by decide) (by decide)
        have hN0 : 0 ≤ N ∧ N < 80 := by omega
        have hd0 : 0 ≤ d ∧ d < 6 := by omega
        have hKb : -1 ≤ K ∧ K ≤ (n : Int) := by omega
        have hKe : xi % ((n : Int) + 2) - 1 = K := hK.symm
        clear hN hd hk1 hcl hK
        go_wp2_with fail
        rw [← hw1, ← hbx]
        clear hw1 hbx c0 c1 c2
        refine HW1.out.mono ?_
        rintro e w2 ⟨rfl, rfl⟩
        go_wp2_with fail
        refine HW2.out.mono ?_
        rintro e w2 ⟨rfl, rfl⟩
        go_wp2_with fail
        refine HW3.out.mono ?_
        rintro e w2 ⟨rfl, rfl⟩
        clear HW1 HW2 HW3 hKe hK0 hK1
        have hKW : Kept (fun k => k = g ∨ k = gr) w1 w1 := Kept.refl _ _
        have HKW := hid_of hKW
        clear hKW
        rcases (by omega : d = 3 ∨ d = 5 ∨ d = 4 ∨ (d ≠ 3 ∧ d ≠ 5 ∧ d ≠ 4)) with h3 | h5 | h4 | ⟨h3, h5, h4⟩
        · as_aux_lemma =>
          have hd3 : (d == 3) = true := beq_iff_eq.2 h3
          clear h3
          obtain ⟨E, hE⟩ : ∃ E, K + N = E := ⟨_, rfl⟩
          have hEb : E ≤ 10000 := by omega
          go_wp2_with fail
          go_loopw [12, 13] (fun v _ ws => ∃ (J : Int) (m5 : List Bool), K ≤ J ∧ J ≤ E ∧ v = .int .i64 J ∧ Hid (PlO ws b g c gr cr n m5) ∧ Hid (Kept (fun k => k = g ∨ k = gr) w1 ws)) (fun v _ _ => (E - intOf v).toNat)
          case atStart => exact ⟨K, m, Int.le_refl _, by omega, rfl, HP1, HKW⟩
          case round =>
            obtain ⟨J, m5, hJ1, hJ2, rfl, hp5, hkb⟩ := hrel
            by_cases hJE : J < E
            · have hJb : decide (J < E) = true := decide_eq_true hJE
              obtain ⟨u, hu⟩ : ∃ u, (d == 3) = u := ⟨_, rfl⟩
              rw [hu] at hd3
              clear hd3
              rcases (by omega : J < 0 ∨ (0 ≤ J ∧ (n : Int) ≤ J) ∨ (0 ≤ J ∧ J < (n : Int))) with hlo | ⟨hp1, hp2⟩ | ⟨hp1, hp2⟩
              · have hb1 : decide (0 ≤ J) = false := decide_eq_false (by omega)
                have hso : setsB m5 J u = false := sets_out u (.inl hlo)
                have HM := hid_of (mset_is _ b g c m5 hp5.out.is J ⟨by omega, by omega⟩ u false hso.symm _ rfl)
                have HSO := hid_of hso
                clear hso
                go_wp2_with fail
                refine HM.out.mono ?_
                rintro e w2 ⟨rfl, hs2, hk2⟩
                have HP5 := hid_of ((hp5.out.set hs2 hk2).1 HSO.out)
                have HKB := hid_of (hkb.out.trans (hk2.mono (fun k _ e => Or.inl e)))
                have hy2 := (HC.out w2 _ HKB.out (fun e => by rcases e with e | e; exact HBN.out.2.1 e; exact HBN.out.2.2 e)).2.2
                clear hs2 hk2 HM
                go_wp2_with fail
                refine ⟨?_, by (simp [intOf]) <;> omega⟩
                first
                  | exact ⟨J + 1, _, by omega, by omega, rfl, HP5, HKB⟩
                  | ((repeat apply Exists.intro); refine ⟨?_, rfl⟩; exact ⟨J + 1, _, by omega, by omega, rfl, HP5, HKB⟩)
              · have hb1 : decide (0 ≤ J) = true := decide_eq_true (by omega)
                have hb2 : decide (J < (n : Int)) = false := decide_eq_false (by omega)
                have hso : setsB m5 J u = false := sets_out u (.inr (by rw [hp5.out.len]; exact hp2))
                have HM := hid_of (mset_is _ b g c m5 hp5.out.is J ⟨by omega, by omega⟩ u false hso.symm _ rfl)
                have HSO := hid_of hso
                clear hso
                go_wp2_with fail
                refine HM.out.mono ?_
                rintro e w2 ⟨rfl, hs2, hk2⟩
                have HP5 := hid_of ((hp5.out.set hs2 hk2).1 HSO.out)
                have HKB := hid_of (hkb.out.trans (hk2.mono (fun k _ e => Or.inl e)))
                have hy2 := (HC.out w2 _ HKB.out (fun e => by rcases e with e | e; exact HBN.out.2.1 e; exact HBN.out.2.2 e)).2.2
                clear hs2 hk2 HM
                go_wp2_with fail
                refine ⟨?_, by (simp [intOf]) <;> omega⟩
                first
                  | exact ⟨J + 1, _, by omega, by omega, rfl, HP5, HKB⟩
                  | ((repeat apply Exists.intro); refine ⟨?_, rfl⟩; exact ⟨J + 1, _, by omega, by omega, rfl, HP5, HKB⟩)
              · obtain ⟨jn, hjn⟩ : ∃ jn : Nat, J = (jn : Int) := ⟨(J).toNat, by omega⟩
                subst hjn
                have hjl : jn < n := by omega
                obtain ⟨z, hz⟩ : ∃ z, m5[jn]? = some z := ⟨_, List.getElem?_eq_getElem (by rw [hp5.out.len]; exact hjl)⟩
                have hcz := (bl_own_cell hp5.out.row hz).1
                have hso : setsB m5 (jn : Int) u = (z != u) := sets_in u hz
                have hb1 : decide (0 ≤ (jn : Int)) = true := decide_eq_true (by omega)
                have hb2 : decide ((jn : Int) < (n : Int)) = true := decide_eq_true (by omega)
                have hok : ((z != u) = false ∧ (z == u) = true) ∨ ((z != u) = true ∧ (z == u) = false) := by cases z <;> cases u <;> simp
                rcases hok with ⟨hok, hok2⟩ | ⟨hok, hok2⟩
                · rw [hok] at hso
                  have HM := hid_of (mset_is _ b g c m5 hp5.out.is (jn : Int) ⟨by omega, by omega⟩ u false hso.symm _ rfl)
                  have HSO := hid_of hso
                  clear hso hz
                  go_wp2_with fail
                  refine HM.out.mono ?_
                  rintro e w2 ⟨rfl, hs2, hk2⟩
                  have HP5 := hid_of ((hp5.out.set hs2 hk2).1 HSO.out)
                  have HKB := hid_of (hkb.out.trans (hk2.mono (fun k _ e => Or.inl e)))
                  have hy2 := (HC.out w2 _ HKB.out (fun e => by rcases e with e | e; exact HBN.out.2.1 e; exact HBN.out.2.2 e)).2.2
                  clear hs2 hk2 HM
                  go_wp2_with fail
                  refine ⟨?_, by (simp [intOf]) <;> omega⟩
                  first
                    | exact ⟨(jn : Int) + 1, _, by omega, by omega, rfl, HP5, HKB⟩
                    | ((repeat apply Exists.intro); refine ⟨?_, rfl⟩; exact ⟨(jn : Int) + 1, _, by omega, by omega, rfl, HP5, HKB⟩)
                · rw [hok] at hso
                  have HM := hid_of (mset_is _ b g c m5 hp5.out.is (jn : Int) ⟨by omega, by omega⟩ u true hso.symm _ rfl)
                  have HSO := hid_of hso
                  have HZ := hid_of hz
                  clear hso hz
                  go_wp2_with fail
                  refine HM.out.mono ?_
                  rintro e w2 ⟨rfl, hs2, hk2⟩
                  have hr2 := ownsRow_other hp5.out.row hk2 (fun k e => by cases e; exact hp5.out.ne.2.1)
                  obtain ⟨hc2, hf2⟩ := bl_own_cell hr2 HZ.out
                  have HP5 := hid_of ((hp5.out.set hs2 hk2).2 jn rfl HSO.out)
                  have HKB := hid_of ((hkb.out.trans (hk2.mono (fun k _ e => Or.inl e))).trans (Kept.setCell (F := fun k => k = g ∨ k = gr) w2 ⟨gr, jn, none⟩ (.bool u) (Or.inr rfl)))
                  have hy2 := (HC.out _ _ HKB.out (fun e => by rcases e with e | e; exact HBN.out.2.1 e; exact HBN.out.2.2 e)).2.2
                  clear hs2 hk2 HM hr2
                  go_wp2_with fail
                  refine ⟨?_, by (simp [intOf]) <;> omega⟩
                  first
                    | exact ⟨(jn : Int) + 1, _, by omega, by omega, rfl, HP5, HKB⟩
                    | ((repeat apply Exists.intro); refine ⟨?_, rfl⟩; exact ⟨(jn : Int) + 1, _, by omega, by omega, rfl, HP5, HKB⟩)
            · have hJb : decide (J < E) = false := decide_eq_false hJE
              have HP5 := hp5
              have hy2 := (HC.out _ _ hkb.out (fun e => by rcases e with e | e; exact HBN.out.2.1 e; exact HBN.out.2.2 e)).2.2
              have HK5 := hid_of (HK1.out.trans (hkb.out.mono (fun k _ e => by rcases e with e | e; exact .inl e; exact .inr (.inl e))))
              clear hp5 hkb
              go_wp2_with fail
              refine (same11_any _ b g c _ ⟨gr, 0, none⟩ n cr xn N HP5.out.is HP5.out.blat HP5.out.len ⟨i5, i6⟩ ⟨by omega, by omega⟩).mono ?_
              rintro e w6 ⟨rfl, hb6⟩
              have HP6 := hid_of (HP5.out.newer hb6)
              have HK6 : Hid (Kept (plX w g gr) w w6) := HK5.out.trans ((below_kept hb6).mono (fun k hkk e => absurd e (Nat.not_le.2 hkk)))
              clear hb6
              go_wp2_with fail
              refine ⟨?_, by (simp [intOf]) <;> omega⟩
              first
                | exact ⟨i + 1, _, by omega, by go_num, HP6, HK6⟩
                | ((repeat apply Exists.intro); refine ⟨?_, rfl⟩; exact ⟨i + 1, _, by omega, by go_num, HP6, HK6⟩)
        · as_aux_lemma =>
          have hd3 : (d == 3) = false := beq_eq_false_iff_ne.2 (by omega)
          have hd5 : (d == 5) = true := beq_iff_eq.2 h5
          clear h5
          obtain ⟨E, hE⟩ : ∃ E, K + N = E := ⟨_, rfl⟩
          have hEb : E ≤ 10000 := by omega
          go_wp2_with fail
          go_loopw [12, 13] (fun v _ ws => ∃ (J : Int) (m5 : List Bool), K ≤ J ∧ J ≤ E ∧ v = .int .i64 J ∧ Hid (PlO ws b g c gr cr n m5) ∧ Hid (Kept (fun k => k = g ∨ k = gr) w1 ws)) (fun v _ _ => (E - intOf v).toNat)
          case atStart => exact ⟨K, m, Int.le_refl _, by omega, rfl, HP1, HKW⟩
          case round =>
            obtain ⟨J, m5, hJ1, hJ2, rfl, hp5, hkb⟩ := hrel
            by_cases hJE : J < E
            · have hJb : decide (J < E) = true := decide_eq_true hJE
              obtain ⟨u, hu⟩ : ∃ u, (d == 3) = u := ⟨_, rfl⟩
              rw [hu] at hd3
              clear hd3
              rcases (by omega : J < 0 ∨ (0 ≤ J ∧ (n : Int) ≤ J) ∨ (0 ≤ J ∧ J < (n : Int))) with hlo | ⟨hp1, hp2⟩ | ⟨hp1, hp2⟩
              · have hb1 : decide (0 ≤ J) = false := decide_eq_false (by omega)
                have hso : setsB m5 J u = false := sets_out u (.inl hlo)
                have HM := hid_of (mset_is _ b g c m5 hp5.out.is J ⟨by omega, by omega⟩ u false hso.symm _ rfl)
                have HSO := hid_of hso
                clear hso
                go_wp2_with fail
                refine HM.out.mono ?_
                rintro e w2 ⟨rfl, hs2, hk2⟩
                have HP5 := hid_of ((hp5.out.set hs2 hk2).1 HSO.out)
                have HKB := hid_of (hkb.out.trans (hk2.mono (fun k _ e => Or.inl e)))
                have hy2 := (HC.out w2 _ HKB.out (fun e => by rcases e with e | e; exact HBN.out.2.1 e; exact HBN.out.2.2 e)).2.2
                clear hs2 hk2 HM
                go_wp2_with fail
                refine ⟨?_, by (simp [intOf]) <;> omega⟩
                first
                  | exact ⟨J + 1, _, by omega, by omega, rfl, HP5, HKB⟩
                  | ((repeat apply Exists.intro); refine ⟨?_, rfl⟩; exact ⟨J + 1, _, by omega, by omega, rfl, HP5, HKB⟩)
              · have hb1 : decide (0 ≤ J) = true := decide_eq_true (by omega)
                have hb2 : decide (J < (n : Int)) = false := decide_eq_false (by omega)
                have hso : setsB m5 J u = false := sets_out u (.inr (by rw [hp5.out.len]; exact hp2))
                have HM := hid_of (mset_is _ b g c m5 hp5.out.is J ⟨by omega, by omega⟩ u false hso.symm _ rfl)
                have HSO := hid_of hso
                clear hso
                go_wp2_with fail
                refine HM.out.mono ?_
                rintro e w2 ⟨rfl, hs2, hk2⟩
                have HP5 := hid_of ((hp5.out.set hs2 hk2).1 HSO.out)
                have HKB := hid_of (hkb.out.trans (hk2.mono (fun k _ e => Or.inl e)))
                have hy2 := (HC.out w2 _ HKB.out (fun e => by rcases e with e | e; exact HBN.out.2.1 e; exact HBN.out.2.2 e)).2.2
                clear hs2 hk2 HM
                go_wp2_with fail
                refine ⟨?_, by (simp [intOf]) <;> omega⟩
                first
                  | exact ⟨J + 1, _, by omega, by omega, rfl, HP5, HKB⟩
                  | ((repeat apply Exists.intro); refine ⟨?_, rfl⟩; exact ⟨J + 1, _, by omega, by omega, rfl, HP5, HKB⟩)
              · obtain ⟨jn, hjn⟩ : ∃ jn : Nat, J = (jn : Int) := ⟨(J).toNat, by omega⟩
                subst hjn
                have hjl : jn < n := by omega
                obtain ⟨z, hz⟩ : ∃ z, m5[jn]? = some z := ⟨_, List.getElem?_eq_getElem (by rw [hp5.out.len]; exact hjl)⟩
                have hcz := (bl_own_cell hp5.out.row hz).1
                have hso : setsB m5 (jn : Int) u = (z != u) := sets_in u hz
                have hb1 : decide (0 ≤ (jn : Int)) = true := decide_eq_true (by omega)
                have hb2 : decide ((jn : Int) < (n : Int)) = true := decide_eq_true (by omega)
                have hok : ((z != u) = false ∧ (z == u) = true) ∨ ((z != u) = true ∧ (z == u) = false) := by cases z <;> cases u <;> simp
                rcases hok with ⟨hok, hok2⟩ | ⟨hok, hok2⟩
                · rw [hok] at hso
                  have HM := hid_of (mset_is _ b g c m5 hp5.out.is (jn : Int) ⟨by omega, by omega⟩ u false hso.symm _ rfl)
                  have HSO := hid_of hso
                  clear hso hz
                  go_wp2_with fail
                  refine HM.out.mono ?_
                  rintro e w2 ⟨rfl, hs2, hk2⟩
                  have HP5 := hid_of ((hp5.out.set hs2 hk2).1 HSO.out)
                  have HKB := hid_of (hkb.out.trans (hk2.mono (fun k _ e => Or.inl e)))
                  have hy2 := (HC.out w2 _ HKB.out (fun e => by rcases e with e | e; exact HBN.out.2.1 e; exact HBN.out.2.2 e)).2.2
                  clear hs2 hk2 HM
                  go_wp2_with fail
                  refine ⟨?_, by (simp [intOf]) <;> omega⟩
                  first
                    | exact ⟨(jn : Int) + 1, _, by omega, by omega, rfl, HP5, HKB⟩
                    | ((repeat apply Exists.intro); refine ⟨?_, rfl⟩; exact ⟨(jn : Int) + 1, _, by omega, by omega, rfl, HP5, HKB⟩)
                · rw [hok] at hso
                  have HM := hid_of (mset_is _ b g c m5 hp5.out.is (jn : Int) ⟨by omega, by omega⟩ u true hso.symm _ rfl)
                  have HSO := hid_of hso
                  have HZ := hid_of hz
                  clear hso hz
                  go_wp2_with fail
                  refine HM.out.mono ?_
                  rintro e w2 ⟨rfl, hs2, hk2⟩
                  have hr2 := ownsRow_other hp5.out.row hk2 (fun k e => by cases e; exact hp5.out.ne.2.1)
                  obtain ⟨hc2, hf2⟩ := bl_own_cell hr2 HZ.out
                  have HP5 := hid_of ((hp5.out.set hs2 hk2).2 jn rfl HSO.out)
                  have HKB := hid_of ((hkb.out.trans (hk2.mono (fun k _ e => Or.inl e))).trans (Kept.setCell (F := fun k => k = g ∨ k = gr) w2 ⟨gr, jn, none⟩ (.bool u) (Or.inr rfl)))
                  have hy2 := (HC.out _ _ HKB.out (fun e => by rcases e with e | e; exact HBN.out.2.1 e; exact HBN.out.2.2 e)).2.2
                  clear hs2 hk2 HM hr2
                  go_wp2_with fail
                  refine ⟨?_, by (simp [intOf]) <;> omega⟩
                  first
                    | exact ⟨(jn : Int) + 1, _, by omega, by omega, rfl, HP5, HKB⟩
                    | ((repeat apply Exists.intro); refine ⟨?_, rfl⟩; exact ⟨(jn : Int) + 1, _, by omega, by omega, rfl, HP5, HKB⟩)
            · have hJb : decide (J < E) = false := decide_eq_false hJE
              have HP5 := hp5
              have hy2 := (HC.out _ _ hkb.out (fun e => by rcases e with e | e; exact HBN.out.2.1 e; exact HBN.out.2.2 e)).2.2
              have HK5 := hid_of (HK1.out.trans (hkb.out.mono (fun k _ e => by rcases e with e | e; exact .inl e; exact .inr (.inl e))))
              clear hp5 hkb
              go_wp2_with fail
              refine (same11_any _ b g c _ ⟨gr, 0, none⟩ n cr xn N HP5.out.is HP5.out.blat HP5.out.len ⟨i5, i6⟩ ⟨by omega, by omega⟩).mono ?_
              rintro e w6 ⟨rfl, hb6⟩
              have HP6 := hid_of (HP5.out.newer hb6)
              have HK6 : Hid (Kept (plX w g gr) w w6) := HK5.out.trans ((below_kept hb6).mono (fun k hkk e => absurd e (Nat.not_le.2 hkk)))
              clear hb6
              go_wp2_with fail
              refine ⟨?_, by (simp [intOf]) <;> omega⟩
              first
                | exact ⟨i + 1, _, by omega, by go_num, HP6, HK6⟩
                | ((repeat apply Exists.intro); refine ⟨?_, rfl⟩; exact ⟨i + 1, _, by omega, by go_num, HP6, HK6⟩)
        · as_aux_lemma =>
          have hd3 : (d == 3) = false := beq_eq_false_iff_ne.2 (by omega)
          have hd5 : (d == 5) = false := beq_eq_false_iff_ne.2 (by omega)
          have hd4 : (d == 4) = true := beq_iff_eq.2 h4
          clear h4
          obtain ⟨R, hR, hR1, hR2⟩ := first_is m 0
          have HR := hid_of hR
          have HRF := hid_of (rmfirst_any w1 (some ⟨gr, 0, none⟩) n cr m HP1.out.blat HP1.out.len hn4 0 ⟨by decide, by decide⟩ R hR)
          have HRT := hid_of (mtake_is w1 b g c m HP1.out.is R hR _ rfl)
          have hRR : (R != R) = false := by simp
          rw [HP1.out.len] at hR2
          clear hR
          rcases (by omega : R < 0 ∨ 0 ≤ R) with hneg | hpos
          · have hRb : decide (0 ≤ R) = false := decide_eq_false (by omega)
            have hR1' : R = -1 := by omega
            have HR1 := hid_of hR1'
            clear hR1'
            go_wp2_with fail
            refine HRF.out.mono ?_
            rintro e w2 ⟨rfl, rfl⟩
            go_wp2_with fail
            refine HRT.out.mono ?_
            rintro e w2 ⟨rfl, hs2, hk2⟩
            have HP5 := hid_of ((HP1.out.take HR.out hs2 hk2).1 HR1.out)
            have HKB : Hid (Kept (fun k => k = g ∨ k = gr) w1 w2) := hk2.mono (fun k _ e => Or.inl e)
            have hy2 := (HC.out w2 _ HKB.out (fun e => by rcases e with e | e; exact HBN.out.2.1 e; exact HBN.out.2.2 e)).2.2
            clear hs2 hk2
            go_wp2_with fail
            have HK5 := hid_of (HK1.out.trans (HKB.out.mono (fun k _ e => by rcases e with e | e; exact .inl e; exact .inr (.inl e))))
            refine (same11_any _ b g c _ ⟨gr, 0, none⟩ n cr xn N HP5.out.is HP5.out.blat HP5.out.len ⟨i5, i6⟩ ⟨by omega, by omega⟩).mono ?_
            rintro e w6 ⟨rfl, hb6⟩
            have HP6 := hid_of (HP5.out.newer hb6)
            have HK6 : Hid (Kept (plX w g gr) w w6) := HK5.out.trans ((below_kept hb6).mono (fun k hkk e => absurd e (Nat.not_le.2 hkk)))
            clear hb6
            go_wp2_with fail
            refine ⟨?_, by (simp [intOf]) <;> omega⟩
            first
              | exact ⟨i + 1, _, by omega, by go_num, HP6, HK6⟩
              | ((repeat apply Exists.intro); refine ⟨?_, rfl⟩; exact ⟨i + 1, _, by omega, by go_num, HP6, HK6⟩)
          · obtain ⟨jn, hjn⟩ : ∃ jn : Nat, R = (jn : Int) := ⟨R.toNat, by omega⟩
            subst hjn
            have hjl : jn < n := by omega
            have hRb : decide (0 ≤ (jn : Int)) = true := decide_eq_true (by omega)
            obtain ⟨z, hz⟩ : ∃ z, m[jn]? = some z := ⟨_, List.getElem?_eq_getElem (by rw [HP1.out.len]; exact hjl)⟩
            have HZ := hid_of hz
            clear hz
            go_wp2_with fail
            refine HRF.out.mono ?_
            rintro e w2 ⟨rfl, rfl⟩
            go_wp2_with fail
            refine HRT.out.mono ?_
            rintro e w2 ⟨rfl, hs2, hk2⟩
            have hr2 := ownsRow_other HP1.out.row hk2 (fun k e => by cases e; exact HP1.out.ne.2.1)
            obtain ⟨hc2, hf2⟩ := bl_own_cell hr2 HZ.out
            have HP5 := hid_of ((HP1.out.take HR.out hs2 hk2).2 jn rfl)
            have HKB : Hid (Kept (fun k => k = g ∨ k = gr) w1 (w2.setCell ⟨gr, jn, none⟩ (.bool true))) := (hk2.mono (fun k _ e => Or.inl e)).trans (Kept.setCell (F := fun k => k = g ∨ k = gr) w2 ⟨gr, jn, none⟩ (.bool true) (Or.inr rfl))
            have hy2 := (HC.out _ _ HKB.out (fun e => by rcases e with e | e; exact HBN.out.2.1 e; exact HBN.out.2.2 e)).2.2
            clear hs2 hk2 hr2
            go_wp2_with fail
            have HK5 := hid_of (HK1.out.trans (HKB.out.mono (fun k _ e => by rcases e with e | e; exact .inl e; exact .inr (.inl e))))
            refine (same11_any _ b g c _ ⟨gr, 0, none⟩ n cr xn N HP5.out.is HP5.out.blat HP5.out.len ⟨i5, i6⟩ ⟨by omega, by omega⟩).mono ?_
            rintro e w6 ⟨rfl, hb6⟩
            have HP6 := hid_of (HP5.out.newer hb6)
            have HK6 : Hid (Kept (plX w g gr) w w6) := HK5.out.trans ((below_kept hb6).mono (fun k hkk e => absurd e (Nat.not_le.2 hkk)))
            clear hb6
            go_wp2_with fail
            refine ⟨?_, by (simp [intOf]) <;> omega⟩
            first
              | exact ⟨i + 1, _, by omega, by go_num, HP6, HK6⟩
              | ((repeat apply Exists.intro); refine ⟨?_, rfl⟩; exact ⟨i + 1, _, by omega, by go_num, HP6, HK6⟩)
        · as_aux_lemma =>
          have hd3 : (d == 3) = false := beq_eq_false_iff_ne.2 h3
          have hd5 : (d == 5) = false := beq_eq_false_iff_ne.2 h5
          have hd4 : (d == 4) = false := beq_eq_false_iff_ne.2 h4
          obtain ⟨u, hu⟩ : ∃ u, (d == 0) = u := ⟨_, rfl⟩
          clear h3 h5 h4
          rcases (by omega : K < 0 ∨ (0 ≤ K ∧ (n : Int) ≤ K) ∨ (0 ≤ K ∧ K < (n : Int))) with hlo | ⟨hp1, hp2⟩ | ⟨hp1, hp2⟩
          · have hb1 : decide (0 ≤ K) = false := decide_eq_false (by omega)
            have hso : setsB m K u = false := sets_out u (.inl hlo)
            have HM := hid_of (mset_is _ b g c m HP1.out.is K ⟨by omega, by omega⟩ u false hso.symm _ rfl)
            have HSO := hid_of hso
            clear hso
            go_wp2_with fail
            refine HM.out.mono ?_
            rintro e w2 ⟨rfl, hs2, hk2⟩
            have HP5 := hid_of ((HP1.out.set hs2 hk2).1 HSO.out)
            have HKB := hid_of (HKW.out.trans (hk2.mono (fun k _ e => Or.inl e)))
            have hy2 := (HC.out w2 _ HKB.out (fun e => by rcases e with e | e; exact HBN.out.2.1 e; exact HBN.out.2.2 e)).2.2
            clear hs2 hk2 HM
            go_wp2_with fail
            have HK5 := hid_of (HK1.out.trans (HKB.out.mono (fun k _ e => by rcases e with e | e; exact .inl e; exact .inr (.inl e))))
            refine (same11_any _ b g c _ ⟨gr, 0, none⟩ n cr xn N HP5.out.is HP5.out.blat HP5.out.len ⟨i5, i6⟩ ⟨by omega, by omega⟩).mono ?_
            rintro e w6 ⟨rfl, hb6⟩
            have HP6 := hid_of (HP5.out.newer hb6)
            have HK6 : Hid (Kept (plX w g gr) w w6) := HK5.out.trans ((below_kept hb6).mono (fun k hkk e => absurd e (Nat.not_le.2 hkk)))
            clear hb6
            go_wp2_with fail
            refine ⟨?_, by (simp [intOf]) <;> omega⟩
            first
              | exact ⟨i + 1, _, by omega, by go_num, HP6, HK6⟩
              | ((repeat apply Exists.intro); refine ⟨?_, rfl⟩; exact ⟨i + 1, _, by omega, by go_num, HP6, HK6⟩)
          · have hb1 : decide (0 ≤ K) = true := decide_eq_true (by omega)
            have hb2 : decide (K < (n : Int)) = false := decide_eq_false (by omega)
            have hso : setsB m K u = false := sets_out u (.inr (by rw [HP1.out.len]; exact hp2))
            have HM := hid_of (mset_is _ b g c m HP1.out.is K ⟨by omega, by omega⟩ u false hso.symm _ rfl)
            have HSO := hid_of hso
            clear hso
            go_wp2_with fail
            refine HM.out.mono ?_
            rintro e w2 ⟨rfl, hs2, hk2⟩
            have HP5 := hid_of ((HP1.out.set hs2 hk2).1 HSO.out)
            have HKB := hid_of (HKW.out.trans (hk2.mono (fun k _ e => Or.inl e)))
            have hy2 := (HC.out w2 _ HKB.out (fun e => by rcases e with e | e; exact HBN.out.2.1 e; exact HBN.out.2.2 e)).2.2
            clear hs2 hk2 HM
            go_wp2_with fail
            have HK5 := hid_of (HK1.out.trans (HKB.out.mono (fun k _ e => by rcases e with e | e; exact .inl e; exact .inr (.inl e))))
            refine (same11_any _ b g c _ ⟨gr, 0, none⟩ n cr xn N HP5.out.is HP5.out.blat HP5.out.len ⟨i5, i6⟩ ⟨by omega, by omega⟩).mono ?_
            rintro e w6 ⟨rfl, hb6⟩
            have HP6 := hid_of (HP5.out.newer hb6)
            have HK6 : Hid (Kept (plX w g gr) w w6) := HK5.out.trans ((below_kept hb6).mono (fun k hkk e => absurd e (Nat.not_le.2 hkk)))
            clear hb6
            go_wp2_with fail
            refine ⟨?_, by (simp [intOf]) <;> omega⟩
            first
              | exact ⟨i + 1, _, by omega, by go_num, HP6, HK6⟩
              | ((repeat apply Exists.intro); refine ⟨?_, rfl⟩; exact ⟨i + 1, _, by omega, by go_num, HP6, HK6⟩)
          · obtain ⟨jn, hjn⟩ : ∃ jn : Nat, K = (jn : Int) := ⟨(K).toNat, by omega⟩
            subst hjn
            have hjl : jn < n := by omega
            obtain ⟨z, hz⟩ : ∃ z, m[jn]? = some z := ⟨_, List.getElem?_eq_getElem (by rw [HP1.out.len]; exact hjl)⟩
            have hcz := (bl_own_cell HP1.out.row hz).1
            have hso : setsB m (jn : Int) u = (z != u) := sets_in u hz
            have hb1 : decide (0 ≤ (jn : Int)) = true := decide_eq_true (by omega)
            have hb2 : decide ((jn : Int) < (n : Int)) = true := decide_eq_true (by omega)
            have hok : ((z != u) = false ∧ (z == u) = true) ∨ ((z != u) = true ∧ (z == u) = false) := by cases z <;> cases u <;> simp
            rcases hok with ⟨hok, hok2⟩ | ⟨hok, hok2⟩
            · rw [hok] at hso
              have HM := hid_of (mset_is _ b g c m HP1.out.is (jn : Int) ⟨by omega, by omega⟩ u false hso.symm _ rfl)
              have HSO := hid_of hso
              clear hso hz
              go_wp2_with fail
              refine HM.out.mono ?_
              rintro e w2 ⟨rfl, hs2, hk2⟩
              have HP5 := hid_of ((HP1.out.set hs2 hk2).1 HSO.out)
              have HKB := hid_of (HKW.out.trans (hk2.mono (fun k _ e => Or.inl e)))
              have hy2 := (HC.out w2 _ HKB.out (fun e => by rcases e with e | e; exact HBN.out.2.1 e; exact HBN.out.2.2 e)).2.2
              clear hs2 hk2 HM
              go_wp2_with fail
              have HK5 := hid_of (HK1.out.trans (HKB.out.mono (fun k _ e => by rcases e with e | e; exact .inl e; exact .inr (.inl e))))
              refine (same11_any _ b g c _ ⟨gr, 0, none⟩ n cr xn N HP5.out.is HP5.out.blat HP5.out.len ⟨i5, i6⟩ ⟨by omega, by omega⟩).mono ?_
              rintro e w6 ⟨rfl, hb6⟩
              have HP6 := hid_of (HP5.out.newer hb6)
              have HK6 : Hid (Kept (plX w g gr) w w6) := HK5.out.trans ((below_kept hb6).mono (fun k hkk e => absurd e (Nat.not_le.2 hkk)))
              clear hb6
              go_wp2_with fail
              refine ⟨?_, by (simp [intOf]) <;> omega⟩
              first
                | exact ⟨i + 1, _, by omega, by go_num, HP6, HK6⟩
                | ((repeat apply Exists.intro); refine ⟨?_, rfl⟩; exact ⟨i + 1, _, by omega, by go_num, HP6, HK6⟩)
            · rw [hok] at hso
              have HM := hid_of (mset_is _ b g c m HP1.out.is (jn : Int) ⟨by omega, by omega⟩ u true hso.symm _ rfl)
              have HSO := hid_of hso
              have HZ := hid_of hz
              clear hso hz
              go_wp2_with fail
              refine HM.out.mono ?_
              rintro e w2 ⟨rfl, hs2, hk2⟩
              have hr2 := ownsRow_other HP1.out.row hk2 (fun k e => by cases e; exact HP1.out.ne.2.1)
              obtain ⟨hc2, hf2⟩ := bl_own_cell hr2 HZ.out
              have HP5 := hid_of ((HP1.out.set hs2 hk2).2 jn rfl HSO.out)
              have HKB := hid_of ((HKW.out.trans (hk2.mono (fun k _ e => Or.inl e))).trans (Kept.setCell (F := fun k => k = g ∨ k = gr) w2 ⟨gr, jn, none⟩ (.bool u) (Or.inr rfl)))
              have hy2 := (HC.out _ _ HKB.out (fun e => by rcases e with e | e; exact HBN.out.2.1 e; exact HBN.out.2.2 e)).2.2
              clear hs2 hk2 HM hr2
              go_wp2_with fail
              have HK5 := hid_of (HK1.out.trans (HKB.out.mono (fun k _ e => by rcases e with e | e; exact .inl e; exact .inr (.inl e))))
              refine (same11_any _ b g c _ ⟨gr, 0, none⟩ n cr xn N HP5.out.is HP5.out.blat HP5.out.len ⟨i5, i6⟩ ⟨by omega, by omega⟩).mono ?_
              rintro e w6 ⟨rfl, hb6⟩
              have HP6 := hid_of (HP5.out.newer hb6)
              have HK6 : Hid (Kept (plX w g gr) w w6) := HK5.out.trans ((below_kept hb6).mono (fun k hkk e => absurd e (Nat.not_le.2 hkk)))
              clear hb6
              go_wp2_with fail
              refine ⟨?_, by (simp [intOf]) <;> omega⟩
              first
                | exact ⟨i + 1, _, by omega, by go_num, HP6, HK6⟩
                | ((repeat apply Exists.intro); refine ⟨?_, rfl⟩; exact ⟨i + 1, _, by omega, by go_num, HP6, HK6⟩)
      · have hd2 : decide ((i : Int) < 20) = false := decide_eq_false (by omega)
        go_wp2_with fail
        go_ret
        exact ⟨rfl, ⟨m, hp.out⟩, hk.out⟩
    · have hd1 : decide ((i : Int) < (len : Int)) = false := decide_eq_false (by omega)
      have hd3 : decide (i < len) = false := decide_eq_false hil
      go_wp2_with fail
      go_ret
      exact ⟨rfl, ⟨m, hp.out⟩, hk.out⟩

end Go.Proofs.YthbophecmpdpdaaDoor

/- The acts of layer 11 that came in. -/
namespace Go.Proofs.YthbophecmpdpdaaDoor
set_option linter.unusedVariables false
set_option linter.unusedSimpArgs false
open Go.ChangeShapes Go.WideShapes Go.ChangeAt Go.RowKit Go.Deep Dg

theorem Tryd.cells58 : Tryd.prog.cellsOf 58 = 3 := by kernel_rfl
theorem open_acts11 {H : Type} {enc : TypeId × Value → H} {W : World} {a : Option Addr} {len cap : Nat} {d : DataW H} {p : List MemPlace} {spare : Nat → Bool}
    (h : DataW.Trod enc Tryd.prog W 0 spare true 39 (.slice a len cap) d p) : len ≤ maxLen ∧ ∃ f, ActsAt W a len f := by
  obtain ⟨fuel, hf⟩ := h
  rcases open_slice Tryd.underlying39 hf with ⟨hcs, _⟩ | ⟨x, l, c, m, n, D, Pl, hcs, _, hl, hm, hmm, _, hcell⟩
  · simp [Value.cells] at hcs
    obtain ⟨rfl, rfl, rfl⟩ := hcs
    exact ⟨by decide, fun _ => (0, 0, 0), fun i hi => by omega⟩
  · simp [Value.cells] at hcs
    obtain ⟨rfl, rfl, rfl⟩ := hcs
    refine ⟨by omega, ?_⟩
    have hlm : len ≤ m := by rw [hmm]; split <;> omega
    have key : ∀ i, i < len → ∃ t : Int × Int × Int, ∃ b off, some x = some ⟨b, off, none⟩ ∧ b < W.heap.size ∧ W.cell? ⟨b, off + i * 3, none⟩ = some (.int .i64 t.1) ∧ W.cell? ⟨b, off + i * 3 + 1, none⟩ = some (.int .i64 t.2.1) ∧ W.cell? ⟨b, off + i * 3 + 2, none⟩ = some (.int .i64 t.2.2) ∧ I64 t.1 ∧ I64 t.2.1 ∧ I64 t.2.2 := by
      intro i hi
      have hx : x.spot = none := by
        obtain ⟨cs0, hc0, _⟩ := hcell 0 (by omega)
        rw [Tryd.cells58] at hc0
        obtain ⟨_, _, _, _, h0, _, _⟩ := cells3_of hc0
        have := spot_of_cell h0
        simpa [Addr.add] using this
      obtain ⟨b, off, s⟩ := x
      simp at hx
      subst hx
      obtain ⟨cs, hc, ht⟩ := hcell i (by omega)
      rw [Tryd.cells58] at hc
      obtain ⟨y0, y1, y2, rfl, h0, h1, h2⟩ := cells3_of hc
      have hadd : (⟨b, off, none⟩ : Addr).add (i * 3) = ⟨b, off + i * 3, none⟩ := by simp [Addr.add]
      rw [hadd] at h0 h1 h2
      have ha1 : (⟨b, off + i * 3, none⟩ : Addr).add 1 = ⟨b, off + i * 3 + 1, none⟩ := by simp [Addr.add]
      have ha2 : (⟨b, off + i * 3, none⟩ : Addr).add 2 = ⟨b, off + i * 3 + 2, none⟩ := by simp [Addr.add]
      rw [ha1] at h1
      rw [ha2] at h2
      obtain ⟨xs, n', _, _, _, hxl, hff⟩ := DataW.trod_struct Tryd.underlying58 ht
      have g0 : DataW.trod enc Tryd.prog W 0 spare true n' 3 (List.take (Tryd.prog.cellsOf 3) (List.drop 0 [y0, y1, y2])) = xs[0]? := hff 0 _ rfl
      have g1 : DataW.trod enc Tryd.prog W 0 spare true n' 3 (List.take (Tryd.prog.cellsOf 3) (List.drop 1 [y0, y1, y2])) = xs[1]? := hff 1 _ rfl
      have g2 : DataW.trod enc Tryd.prog W 0 spare true n' 3 (List.take (Tryd.prog.cellsOf 3) (List.drop 2 [y0, y1, y2])) = xs[2]? := hff 2 _ rfl
      have hx3 : xs.length = 3 := hxl
      match xs, hx3 with
      | [z0, z1, z2], _ =>
        simp only [List.getElem?_cons_zero, List.getElem?_cons_succ] at g0 g1 g2
        rw [Tryd.cells3] at g0 g1 g2
        obtain ⟨n0, e0, _, w0⟩ := DataW.trod_int Tryd.underlying3 g0
        obtain ⟨n1, e1, _, w1⟩ := DataW.trod_int Tryd.underlying3 g1
        obtain ⟨n2, e2, _, w2⟩ := DataW.trod_int Tryd.underlying3 g2
        simp at e0 e1 e2
        subst e0 e1 e2
        exact ⟨(n0, n1, n2), b, off, rfl, World.block_lt_of_cell? W _ h0, h0, h1, h2, wf_i64 w0, wf_i64 w1, wf_i64 w2⟩
    obtain ⟨f, hf'⟩ := choose_lt key
    exact ⟨f, hf'⟩


end Go.Proofs.YthbophecmpdpdaaDoor

/- Numbers in a row that can be read; rows of numbers of the call's own; Copy and Cut of numbers. -/
namespace Go.Proofs.YthbophecmpdpdaaDoor
set_option linter.unusedVariables false
set_option linter.unusedSimpArgs false
open Go.RowKit Dg

/-- Numbers that can be read. -/
def IntsAt (w : World) (a : Option Addr) (l : List Int) : Prop :=
  ∀ j x, l[j]? = some x → ∃ b off, a = some ⟨b, off, none⟩ ∧ w.cell? ⟨b, off + j, none⟩ = some (.int .i64 x)
theorem IntsAt.below {w w' : World} {a : Option Addr} {l : List Int} {B : Nat} (h : IntsAt w a l) (hb : Below B w w') (hB : ∀ x, a = some x → x.block < B) : IntsAt w' a l := by
  intro j x hx
  obtain ⟨b, off, rfl, hc⟩ := h j x hx
  refine ⟨b, off, rfl, ?_⟩
  rw [hb.cell (p := ⟨b, off + j, none⟩) (hB ⟨b, off, none⟩ rfl)]
  exact hc
theorem IntsAt.kept {w w' : World} {a : Option Addr} {l : List Int} {F : Nat → Prop} (h : IntsAt w a l) (hk : Kept F w w') (hF : ∀ x, a = some x → ¬ F x.block) : IntsAt w' a l := by
  intro j x hx
  obtain ⟨b, off, rfl, hc⟩ := h j x hx
  refine ⟨b, off, rfl, ?_⟩
  rw [hk.cell (World.block_lt_of_cell? w _ hc) (hF ⟨b, off, none⟩ rfl)]
  exact hc
theorem IntsAt.take {w : World} {a : Option Addr} {l : List Int} (h : IntsAt w a l) (n : Nat) : IntsAt w a (l.take n) := by
  intro j x hx
  refine h j x ?_
  rw [List.getElem?_take] at hx
  split at hx
  · exact hx
  · cases hx
theorem IntsAt.nil (w : World) (a : Option Addr) : IntsAt w a [] := fun j x hx => by simp at hx
/-- Numbers as values. -/
def i64s (l : List Int) : List Value := l.map fun x : Int => Value.int .i64 x
@[simp] theorem length_i64s (l : List Int) : (i64s l).length = l.length := by simp [i64s]
theorem i64s_get (l : List Int) (k : Nat) : (i64s l)[k]? = l[k]?.map fun x : Int => Value.int .i64 x := by simp [i64s]
theorem IntsAt.of_owns {w : World} {base : Nat} {a : Option Addr} {n m cap : Nat} {l : List Int} (h : w.ownsRow base 3 1 (.slice a m cap) n (i64s l)) : IntsAt w a l := by
  have hl : l.length = n := by have := h.1; simpa using this
  rcases h.2 with ⟨e, rfl⟩ | ⟨g, cap, cur, e, hb, hh, hn, _, hcs, htake⟩
  · have : l = [] := List.eq_nil_of_length_eq_zero hl
    subst this
    exact IntsAt.nil w a
  · cases e
    intro j x hx
    refine ⟨g, 0, rfl, ?_⟩
    have hj : j < l.length := (List.getElem?_eq_some_iff.1 hx).1
    have e : (i64s l)[j]? = some (.int .i64 x) := by rw [i64s_get, hx]; rfl
    rw [← htake, List.getElem?_take, if_pos (by omega)] at e
    simp only [World.cell?, hh]
    simpa using e
/-- The numbers of a slice that came in. -/
theorem IsRow.ints {w : World} {a : Option Addr} {len cap : Nat} {zs : List Int} (h : IsRow .i64 w a len cap zs) :
    ∃ l : List Int, l.length = len ∧ (∀ x ∈ l, I64 x) ∧ IntsAt w a l ∧ len ≤ cap ∧ cap ≤ maxLen ∧ (a = none → len = 0 ∧ cap = 0) ∧ ∀ x, a = some x → 0 < len → x.block < w.heap.size := by
  rcases h with ⟨rfl, rfl, rfl, rfl⟩ | ⟨x, rfl, hle, hm, hz, hc, hwf⟩
  · exact ⟨[], rfl, fun x hx => by simp at hx, IntsAt.nil w _, Nat.le_refl _, by decide, fun _ => ⟨rfl, rfl⟩, fun x hx => by cases hx⟩
  · have hsp : 0 < zs.length → x.spot = none := fun h0 => by
      have := spot_of_cell (hc 0 h0)
      simpa [Addr.add] using this
    refine ⟨zs.take len, by simp; omega, fun y hy => wf_i64 (hwf y (List.mem_of_mem_take hy)), ?_, hle, hm, (fun e => by cases e), ?_⟩
    · intro j y hy
      have hj : j < (zs.take len).length := (List.getElem?_eq_some_iff.1 hy).1
      simp at hj
      have hj2 : j < zs.length := by omega
      obtain ⟨b, off, s⟩ := x
      have hs := hsp (by omega)
      simp at hs
      subst hs
      refine ⟨b, off, rfl, ?_⟩
      have hcell := hc j hj2
      have hadd : (⟨b, off, none⟩ : Addr).add j = ⟨b, off + j, none⟩ := by simp [Addr.add]
      rw [hadd] at hcell
      rw [hcell]
      rw [List.getElem?_take, if_pos (by omega)] at hy
      simp [List.getD, hy]
    · intro y hy h0
      cases hy
      have hcell := hc 0 (by omega)
      exact World.block_lt_of_cell? w _ hcell
theorem Tryd.info3 : (Tryd.prog.info? 3).map (fun i => (i.zero, i.size, i.bytes)) = some (some (.int .i64 0), 1, 8) := by kernel_rfl
/-- A row of numbers of the call's own. -/
def OwnInts (w : World) (base : Nat) (v : Value) (l : List Int) : Prop := w.ownsRow base 3 1 v l.length (i64s l)
theorem OwnInts.nil (w : World) (base : Nat) : OwnInts w base (.slice none 0 0) [] := World.ownsRow_nil _ _ _ _
theorem OwnInts.slice {w : World} {base : Nat} {v : Value} {l : List Int} (h : OwnInts w base v l) : ∃ a cap, v = .slice a l.length cap ∧ IntsAt w a l ∧ (a = none ∧ l = [] ∧ cap = 0 ∨ ∃ g, a = some ⟨g, 0, none⟩ ∧ base ≤ g ∧ g < w.heap.size) := by
  have h' := h
  rcases h.2 with ⟨rfl, hn⟩ | ⟨g, cap, cur, rfl, hb, hh, hn, _, hcs, htake⟩
  · have : l = [] := List.eq_nil_of_length_eq_zero hn
    subst this
    exact ⟨none, 0, rfl, IntsAt.nil w _, .inl ⟨rfl, rfl, rfl⟩⟩
  · exact ⟨some ⟨g, 0, none⟩, cap, rfl, IntsAt.of_owns h, .inr ⟨g, rfl, hb, (Array.getElem?_eq_some_iff.1 hh).1⟩⟩
theorem OwnInts.below {w w' : World} {base B : Nat} {v : Value} {l : List Int} (h : OwnInts w base v l) (hb : Below B w w') (hB : ∀ k, v.ownBlock = some k → k < B) : OwnInts w' base v l := by
  refine ⟨h.1, ?_⟩
  rcases h.2 with hn | ⟨g, cap, cur, rfl, hg, hh, r⟩
  · exact .inl hn
  · exact .inr ⟨g, cap, cur, rfl, hg, by rw [hb.block g (hB g rfl)]; exact hh, r⟩
/-- 'append(z, n)' of one number that was just built. -/
theorem wpList_append_int {P : Program} (w0 : World) {ops : Array Oper} {rest : List Oper} {o : Oper} {a : Act} {Q : Exit → Act → World → Prop}
    (hgd : o.guard = none) (s x : Operand) (t : TypeId) (ho : o.op = .call { callee := .builtin .append, args := #[s, x], argTypes := #[t, t] })
    (base : Nat) (i : TypeInfo) (ht : P.underlying t = some (.slice 3)) (hi : P.info? 3 = some i) (hz : i.zero = some (.int .i64 0)) (hsize : i.size = 1) (hby : i.bytes = 8)
    (v : Value) (l : List Int) (hs : a.eval s = v) (hown : OwnInts w0 base v l) (y : Int) (hx : a.eval x = .slice (some ⟨w0.heap.size, 0, none⟩) 1 1)
    (hl : l.length ≤ 1000000) (hbase : base ≤ w0.heap.size)
    (h : ∀ v' w', Hid (OwnInts w' base v' (l ++ [y])) → Hid (Below base w0 w') → wpList P ops Q rest (a.put o.dst v') w') : wpList P ops Q (o :: rest) a (w0.alloc (.cells #[.int .i64 y] 3)) := by
  refine wpList_append_mine _ hgd s x t ho base 3 i (.int .i64 0) 1 8 ht hi hz hsize hby rfl (by decide) v l.length (i64s l) hs (World.ownsRow.alloc hown _) ⟨w0.heap.size, 0, none⟩ 1 1 [.int .i64 y] hx rfl ?c1 ?c2 (by decide) ?b1 ?b2 ?b3 ?_
  case c1 => intro j u hj; match j, hj with | 0, hj => simp at hj; subst hj; simp [Addr.add]
  case c2 => intro u hu; simp at hu; subst hu; rfl
  case b1 => unfold maxLen; omega
  case b2 => omega
  case b3 => simp; omega
  intro g cap w' H1 HG HN
  refine h _ w' ?_ ?_
  · show World.ownsRow _ _ _ _ _ _ _
    have := H1.out
    simpa [i64s] using this
  · exact ((Below.refl base w0).alloc hbase _).grown HG.out (by simp; omega) (fun k hk => (World.ownsRow.lt hown k hk).1)
end Go.Proofs.YthbophecmpdpdaaDoor
