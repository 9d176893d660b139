/- The texts FrmP, FrmMore, FrmSize, FrmW, Frm8, Frm9, FrmA, one behind the other. -/
import Derived.Test.YthkfaackkcdcoabGreatPart12
import Derived.Test.YthkfaackkcdcoabGreatPart13
import Derived.Test.YthkfaackkcdcoabGreatPart08

/- Encode, As, Decode and Kind of frame: the four contracts that the laws lean on. -/
namespace Go.Proofs.YthkfaackkcdcoabGreat
set_option linter.unusedVariables false
set_option linter.unusedSimpArgs false
open Go.RowKit Dg

theorem fenc_any (w : World) (s : Nat) (a : Option Addr) (cap : Nat) (l : List Int) (hl : Ns w a cap l) (hll : l.length ≤ 1000000) (hs : mayX l → IsShift (autoZ l 0) s) (R : List Nat × Int) (hR : R = encOut l s) :
    Calls Tryz.prog 13 #[.slice a l.length cap] w fun e w' => GaveN w w' R e := by
  refine (fenc_full w s a cap l hl hll hs R hR).mono ?_
  rintro e w' ⟨v, h1, h2, -, h3⟩
  exact ⟨v, h1, h2, h3⟩
theorem kind_first {l : List Nat} {x : List Int} (h : decD (unpack l) = some x) : ∃ b : Nat, l[0]? = some b ∧ kindOut l = (b : Int) := by
  cases l with
  | nil => rw [unpack_nil] at h; cases h
  | cons b l =>
    refine ⟨b, rfl, ?_⟩
    unfold kindOut
    rw [h]
    rfl
set_option maxHeartbeats 1000000 in
theorem fkind_any (w : World) (v : Value) (l : List Nat) (h : SlAt w v l) (hl : l.length ≤ 1000000) (hby : ∀ x ∈ l, x < 256) (k : Int) (hk : k = kindOut l) :
    Calls Tryz.prog 14 #[v] w fun e w' => e = .returned (.int .i64 k) ∧ Below w.heap.size w w' := by
  have HL := hid_of h
  have HS := hid_of hby
  cases hd : decD (unpack l) with
  | none =>
    have HR : Hid (([], 2) = decOut 2 l) := by show _ = _; unfold decOut; rw [hd]
    have HK : Hid (k = -1) := by show _ = _; rw [hk]; unfold kindOut; rw [hd]
    clear h hby hk hd
    go_enter Tryz.func14, Tryz.ntmps14
    go_wp2_with fail
    refine (fdec_any w v l HL.out hl HS.out _ HR.out).mono ?_
    rintro e w1 hg
    obtain ⟨a1, c1, rfl, -, -, hb1⟩ := hg.ok
    have HB1 := hid_of hb1
    clear hg hb1
    go_wp2_with fail
    go_ret
    rw [HK.out]
    exact ⟨rfl, HB1.out⟩
  | some x =>
    have HR : Hid ((x, 0) = decOut 2 l) := by show _ = _; unfold decOut; rw [hd]
    obtain ⟨b, hb, hkb⟩ := kind_first hd
    have HK : Hid (k = (b : Int)) := by show _ = _; rw [hk, hkb]
    obtain ⟨sa, sc, rfl, hcell⟩ := h
    obtain ⟨bb, off, rfl, hc⟩ := hcell 0 b hb
    rw [Nat.add_zero] at hc
    have hlp : 0 < l.length := (List.getElem?_eq_some_iff.1 hb).1
    have hb256 := hby b (List.mem_of_getElem? hb)
    clear hby hk hd hcell hkb hb
    go_enter Tryz.func14, Tryz.ntmps14
    go_wp2_with fail
    refine (fdec_any w _ l HL.out hl HS.out _ HR.out).mono ?_
    rintro e w1 hg
    obtain ⟨a1, c1, rfl, -, -, hb1⟩ := hg.ok
    have hc1 : w1.cell? ⟨bb, off, none⟩ = some (.int .u8 (b : Int)) := (hb1.cell (p := ⟨bb, off, none⟩) (World.block_lt_of_cell? w _ hc)).trans hc
    have HB1 := hid_of hb1
    clear hg hb1
    go_wp2_with fail
    go_ret
    rw [HK.out]
    exact ⟨rfl, HB1.out⟩

end Go.Proofs.YthkfaackkcdcoabGreat

/- Frames, on: which is the shortest; a frame that is cut short; the first byte; no program. -/
namespace Go.Proofs.YthkfaackkcdcoabGreat
set_option linter.unusedVariables false
set_option linter.unusedSimpArgs false
open Go.RowKit Dg

theorem frm_verb {x : List Int} (h : mayX x) (s : Nat) : frm 1 x s = some (headD 1 x.length ++ sampsD x) := by
  unfold frm
  rw [if_neg (by simp [h]), if_neg (by decide), if_pos rfl]
theorem frm_ne {kind : Int} {x : List Int} {s : Nat} {D : List Bool} (h : frm kind x s = some D) : 16 ≤ D.length ∧ mayX x ∧ 0 ≤ kind ∧ kind ≤ 18 ∧ ∃ E, D = headD kind x.length ++ E := by
  have key : ∀ E, D = headD kind x.length ++ E → 16 ≤ D.length := fun E e => by rw [e]; simp
  unfold frm at h
  by_cases hk : ¬ mayX x ∨ kind < 0 ∨ 18 < kind
  · rw [if_pos hk] at h; cases h
  rw [if_neg hk] at h
  have hm : mayX x := by
    by_cases hm : mayX x
    · exact hm
    · exact absurd (Or.inl hm) hk
  have fin : (∃ E, D = headD kind x.length ++ E) → 16 ≤ D.length ∧ mayX x ∧ 0 ≤ kind ∧ kind ≤ 18 ∧ ∃ E, D = headD kind x.length ++ E := fun ⟨E, e⟩ => ⟨key E e, hm, by omega, by omega, E, e⟩
  apply fin
  by_cases h0 : kind = 0
  · rw [if_pos h0] at h
    by_cases ha : allOne x
    · rw [if_pos ha] at h; cases h; exact ⟨_, rfl⟩
    · rw [if_neg ha] at h; cases h
  rw [if_neg h0] at h
  by_cases h1 : kind = 1
  · rw [if_pos h1] at h; cases h; exact ⟨_, rfl⟩
  rw [if_neg h1] at h
  by_cases h6 : kind ≤ 6
  · rw [if_pos h6] at h
    by_cases hl : (x.length : Int) < kind - 2
    · rw [if_pos hl] at h; cases h
    rw [if_neg hl] at h
    by_cases hz : okZ (residZ x (kind - 2).toNat)
    · rw [if_pos hz] at h; cases h; exact ⟨_, List.append_assoc _ _ _⟩
    · rw [if_neg hz] at h; cases h
  rw [if_neg h6] at h
  by_cases hc : (coOut x (kind - 6) s).2 = true
  · rw [if_pos hc] at h
    by_cases hz : okZ (lresidZ x (coOut x (kind - 6) s).1)
    · rw [if_pos hz] at h; cases h; exact ⟨_, by simp only [List.append_assoc]; rfl⟩
    · rw [if_neg hz] at h; cases h
  · rw [if_neg hc] at h; cases h
/-- The shortest of the first kinds is one of them, and none is shorter. -/
theorem bestF_cases (x : List Int) (s j : Nat) : (bestF x s j = [] ∧ ∀ i, i < j → frm (i : Int) x s = none) ∨ ∃ i, i < j ∧ frm (i : Int) x s = some (bestF x s j) ∧ ∀ k D, k < j → frm (k : Int) x s = some D → (bestF x s j).length ≤ D.length ∧ (k < i → (bestF x s j).length < D.length) := by
  induction j with
  | zero => exact .inl ⟨rfl, fun i hi => by omega⟩
  | succ j ih =>
    cases hF : frm (j : Int) x s with
    | none =>
      have e : bestF x s (j + 1) = bestF x s j := by simp only [bestF]; rw [hF]
      rw [e]
      rcases ih with ⟨h1, h2⟩ | ⟨i, h1, h2, h3⟩
      · refine .inl ⟨h1, fun i hi => ?_⟩
        rcases (by omega : i < j ∨ i = j) with h | h
        · exact h2 i h
        · rw [h]; exact hF
      · refine .inr ⟨i, by omega, h2, fun k D hk hD => ?_⟩
        rcases (by omega : k < j ∨ k = j) with h | h
        · exact h3 k D h hD
        · rw [h, hF] at hD; cases hD
    | some b =>
      have hb := (frm_ne hF).1
      have e : bestF x s (j + 1) = if (bestF x s j).length = 0 ∨ b.length < (bestF x s j).length then b else bestF x s j := by simp only [bestF]; rw [hF]
      rcases ih with ⟨h1, h2⟩ | ⟨i, h1, h2, h3⟩
      · have e2 : bestF x s (j + 1) = b := by rw [e, if_pos (.inl (by rw [h1]; rfl))]
        rw [e2]
        refine .inr ⟨j, by omega, hF, fun k D hk hD => ?_⟩
        rcases (by omega : k < j ∨ k = j) with h | h
        · rw [h2 k h] at hD; cases hD
        · rw [h, hF] at hD; cases hD; exact ⟨Nat.le_refl _, fun h => by omega⟩
      · have hbe := (frm_ne h2).1
        by_cases hlt : b.length < (bestF x s j).length
        · have e2 : bestF x s (j + 1) = b := by rw [e, if_pos (.inr hlt)]
          rw [e2]
          refine .inr ⟨j, by omega, hF, fun k D hk hD => ?_⟩
          rcases (by omega : k < j ∨ k = j) with h | h
          · have := (h3 k D h hD).1
            exact ⟨by omega, fun _ => by omega⟩
          · rw [h, hF] at hD; cases hD; exact ⟨Nat.le_refl _, fun h => by omega⟩
        · have e2 : bestF x s (j + 1) = bestF x s j := by rw [e, if_neg (by omega)]
          rw [e2]
          refine .inr ⟨i, by omega, h2, fun k D hk hD => ?_⟩
          rcases (by omega : k < j ∨ k = j) with h | h
          · exact h3 k D h hD
          · rw [h, hF] at hD; cases hD; exact ⟨by omega, fun h => by omega⟩
/-- Of samples that may be there is a shortest frame. -/
theorem bestF_any {x : List Int} (h : mayX x) (s : Nat) : ∃ i : Nat, i < 19 ∧ frm (i : Int) x s = some (bestF x s 19) ∧ ∀ (k : Nat) (D : List Bool), k < 19 → frm (k : Int) x s = some D → (bestF x s 19).length ≤ D.length ∧ (k < i → (bestF x s 19).length < D.length) := by
  rcases bestF_cases x s 19 with ⟨-, h2⟩ | h1
  · have := h2 1 (by decide)
    rw [show ((1 : Nat) : Int) = 1 from rfl, frm_verb h s] at this
    cases this
  · exact h1
theorem bestF_verb {x : List Int} (h : mayX x) (s : Nat) : (bestF x s 19).length ≤ 16 + 24 * x.length := by
  obtain ⟨i, -, -, h3⟩ := bestF_any h s
  have := (h3 1 _ (by decide) (frm_verb h s)).1
  simp at this
  exact this
/-- Bytes behind bytes. -/
theorem unpack_append (l m : List Nat) : unpack (l ++ m) = unpack l ++ unpack m := by simp [unpack]
theorem unpack_zeros (k : Nat) : unpack (List.replicate k 0) = List.replicate (8 * k) false := by
  induction k with
  | zero => rfl
  | succ k ih =>
    rw [List.replicate_succ, unpack_cons, ih]
    have e : (List.range 8).map (digitOf 0) = List.replicate 8 false := by decide
    rw [e, List.replicate_append_replicate]
    congr 1
    omega
/-- A frame's bytes, and anything behind them. -/
theorem decD_pack {kind : Int} {x : List Int} {s : Nat} {D : List Bool} (h : frm kind x s = some D) (m : List Nat) : decD (unpack (pack D ++ m)) = if noOnes (unpack m) = true then some x else none := by
  rw [unpack_append, unpack_pack, List.append_assoc, decD_tail h]
  have e : noOnes (List.replicate ((8 - D.length % 8) % 8) false ++ unpack m) = noOnes (unpack m) := by
    unfold noOnes
    rw [List.any_append]
    simp
  rw [e]
theorem decOut_pack {kind : Int} {x : List Int} {s : Nat} {D : List Bool} (h : frm kind x s = some D) (E : Int) : decOut E (pack D) = (x, 0) := by
  have := decD_pack h []
  rw [List.append_nil, if_pos (by rfl)] at this
  unfold decOut
  rw [this]
theorem pack_first {kind : Int} {n : Nat} {E : List Bool} (h0 : 0 ≤ kind) (h1 : kind ≤ 18) : (pack (headD kind n ++ E)).getD 0 0 = kind.toNat := by
  have hl : 0 < ((headD kind n ++ E).length + 7) / 8 := by simp; omega
  rw [List.getD, pack_get _ 0 hl]
  simp only [Option.getD_some]
  have hu := unpack_pack (headD kind n ++ E)
  have hx := byteAt_lt (headD kind n ++ E) 0
  obtain ⟨b, hb⟩ : ∃ b, b = byteAt (headD kind n ++ E) 0 := ⟨_, rfl⟩
  rw [← hb] at hx ⊢
  have e1 : (unpack (pack (headD kind n ++ E))).take 8 = dig (b : Int) 8 := by
    have e2 : pack (headD kind n ++ E) = b :: (pack (headD kind n ++ E)).tail := by
      have h2 := pack_get (headD kind n ++ E) 0 hl
      cases hp : pack (headD kind n ++ E) with
      | nil => rw [hp] at h2; simp at h2
      | cons y ys => rw [hp] at h2; simp at h2; rw [hb, h2]; rfl
    rw [e2, unpack_cons, ← dig8, List.take_left' (by simp)]
  have e3 : (unpack (pack (headD kind n ++ E))).take 8 = dig kind 8 := by
    rw [hu]
    unfold headD
    simp only [List.append_assoc]
    rw [List.take_left' (by simp)]
  have h4 := num_dig (b : Int) 8
  have h5 := num_dig kind 8
  rw [← e1, e3, h5] at h4
  omega
theorem kindOut_pack {kind : Int} {x : List Int} {s : Nat} {D : List Bool} (h : frm kind x s = some D) : kindOut (pack D) = kind := by
  have h1 := decD_pack h []
  rw [List.append_nil, if_pos (by rfl)] at h1
  obtain ⟨-, -, h2, h3, E, rfl⟩ := frm_ne h
  unfold kindOut
  rw [h1]
  simp only
  rw [pack_first h2 h3]
  omega

theorem takeD_ext {ds : List Bool} {n : Nat} {q : Nat × List Bool} (h : takeD ds n = some q) (t : List Bool) : takeD (ds ++ t) n = some (q.1, q.2 ++ t) := by
  unfold takeD at h ⊢
  split at h
  · rename_i hl
    cases h
    rw [if_pos (by simp; omega), List.take_append_of_le_length hl, List.drop_append_of_le_length hl]
  · cases h
theorem sampsT_ext : ∀ (n : Nat) (ds : List Bool) (q : List Int × List Bool), sampsT n ds = some q → ∀ t, sampsT n (ds ++ t) = some (q.1, q.2 ++ t) := by
  intro n
  induction n with
  | zero => intro ds q h t; simp [sampsT] at h ⊢; subst h; exact ⟨rfl, rfl⟩
  | succ n ih =>
    intro ds q h t
    rw [sampsT] at h ⊢
    obtain ⟨r, h1, h2⟩ := Option.bind_eq_some_iff.1 h
    obtain ⟨q', h3, rfl⟩ := Option.map_eq_some_iff.1 h2
    rw [takeD_ext h1 t]
    simp only [Option.bind_some]
    rw [ih _ _ h3 t]
    rfl
theorem coefsT_ext : ∀ (n : Nat) (ds : List Bool) (q : List Int × List Bool), coefsT n ds = some q → ∀ t, coefsT n (ds ++ t) = some (q.1, q.2 ++ t) := by
  intro n
  induction n with
  | zero => intro ds q h t; simp [coefsT] at h ⊢; subst h; exact ⟨rfl, rfl⟩
  | succ n ih =>
    intro ds q h t
    rw [coefsT] at h ⊢
    obtain ⟨r, h1, h2⟩ := Option.bind_eq_some_iff.1 h
    obtain ⟨q', h3, rfl⟩ := Option.map_eq_some_iff.1 h2
    rw [takeD_ext h1 t]
    simp only [Option.bind_some]
    rw [ih _ _ h3 t]
    rfl
theorem getOut_ext {ds : List Bool} {n : Int} (h : (getOut ds n).2.2 = true) (t : List Bool) : getOut (ds ++ t) n = getOut ds n ∧ (getOut ds n).2.1 ≤ ds.length := by
  unfold getOut at h ⊢
  by_cases hc : 0 ≤ n ∧ n ≤ 62 ∧ n ≤ ds.length
  · rw [if_pos hc, if_pos ⟨hc.1, hc.2.1, by simp; omega⟩, List.take_append_of_le_length (by omega)]
    exact ⟨rfl, by simp; omega⟩
  · rw [if_neg hc] at h; cases h
theorem lead_ext (t : List Bool) : ∀ (ds : List Bool) (m : Nat), (lead ds m = m ∨ lead ds m < ds.length) → lead (ds ++ t) m = lead ds m := by
  intro ds
  induction ds with
  | nil =>
    intro m h
    cases m with
    | zero => cases t <;> rfl
    | succ m => rcases h with h | h <;> simp [lead] at h
  | cons d ds ih =>
    intro m h
    cases m with
    | zero => rfl
    | succ m =>
      cases d with
      | false => rfl
      | true =>
        simp only [List.cons_append, lead] at h ⊢
        rw [ih m (by simp at h; omega)]
theorem onesOut_ext {ds : List Bool} {n : Int} (h : (onesOut ds n).2.2 = true) (t : List Bool) : onesOut (ds ++ t) n = onesOut ds n ∧ (onesOut ds n).2.1 ≤ ds.length := by
  unfold onesOut at h ⊢
  by_cases hc : 0 ≤ n ∧ n ≤ 1024
  · rw [if_pos hc] at h
    rw [if_pos hc, if_pos hc]
    have hle := lead_le_length ds n.toNat
    by_cases h1 : lead ds n.toNat = n.toNat
    · rw [lead_ext t ds _ (.inl h1), if_pos h1, if_pos h1]
      exact ⟨rfl, by simp; omega⟩
    · rw [if_neg h1] at h
      by_cases h2 : lead ds n.toNat = ds.length
      · rw [if_pos h2] at h; cases h
      · rw [lead_ext t ds _ (.inr (by omega)), if_neg h1, if_neg h1, if_neg h2, if_neg (by simp; omega)]
        exact ⟨rfl, by simp; omega⟩
  · rw [if_neg hc] at h; cases h
theorem riceOut_ext {ds : List Bool} {k : Int} (h : (riceOut ds k).2.2 = true) (t : List Bool) : riceOut (ds ++ t) k = riceOut ds k ∧ (riceOut ds k).2.1 ≤ ds.length := by
  unfold riceOut at h ⊢
  by_cases hp : isPar k = true
  case neg => rw [if_neg hp] at h; cases h
  rw [if_pos hp] at h
  rw [if_pos hp, if_pos hp]
  by_cases ho : (onesOut ds 24).2.2 = true
  case neg => rw [if_neg ho] at h; cases h
  obtain ⟨e1, e2⟩ := onesOut_ext ho t
  rw [if_pos ho] at h
  rw [e1, if_pos ho, if_pos ho]
  have hk := isPar_true hp
  rcases onesOut_cases ds with hc | hc | ⟨c, hc24, hc⟩
  · rw [hc] at ho; cases ho
  · rw [hc] at h e2 ⊢
    simp only [if_true] at h e2 ⊢
    by_cases hg : (getOut (ds.drop 24) 32).2.2 = true ∧ 24 ≤ (getOut (ds.drop 24) 32).1 / 2 ^ k.toNat
    · obtain ⟨f1, f2⟩ := getOut_ext hg.1 t
      have f3 : (getOut (ds.drop 24) 32).2.1 = 32 := by
        rcases getOut_cases (ds.drop 24) 32 with h1 | ⟨v, -, -, h1⟩
        · have h2 := hg.1
          rw [show getOut (ds.drop 24) 32 = (0, 0, false) from h1] at h2; cases h2
        · rw [show getOut (ds.drop 24) 32 = (v, 32, true) from h1]
      rw [List.drop_append_of_le_length e2, f1, if_pos hg]
      rw [f3] at f2
      simp at f2
      exact ⟨rfl, by simp; omega⟩
    · rw [if_neg hg] at h; cases h
  · rw [hc] at h e2 ⊢
    have hne : ¬ c = 24 := by omega
    simp only [if_neg hne] at h e2 ⊢
    by_cases hg : (getOut (ds.drop (c + 1)) k).2.2 = true
    · obtain ⟨f1, f2⟩ := getOut_ext hg t
      have f3 : (getOut (ds.drop (c + 1)) k).2.1 = k.toNat := by
        have ek : k = ((k.toNat : Nat) : Int) := by omega
        rcases getOut_cases (ds.drop (c + 1)) k.toNat with h1 | ⟨v, -, -, h1⟩
        · rw [← ek] at h1; rw [h1] at hg; cases hg
        · rw [← ek] at h1; rw [h1]
      rw [List.drop_append_of_le_length e2, f1, if_pos hg]
      rw [f3] at f2
      simp at f2
      exact ⟨rfl, by simp; omega⟩
    · rw [if_neg hg] at h; cases h
theorem ricesT_ext (k : Nat) : ∀ (n : Nat) (ds : List Bool) (q : List Int × List Bool), ricesT k n ds = some q → ∀ t, ricesT k n (ds ++ t) = some (q.1, q.2 ++ t) := by
  intro n
  induction n with
  | zero => intro ds q h t; simp [ricesT] at h ⊢; subst h; exact ⟨rfl, rfl⟩
  | succ n ih =>
    intro ds q h t
    rw [ricesT] at h ⊢
    split at h
    · rename_i ho
      obtain ⟨q', h3, rfl⟩ := Option.map_eq_some_iff.1 h
      obtain ⟨e1, e2⟩ := riceOut_ext ho t
      rw [e1, if_pos ho, List.drop_append_of_le_length e2, ih _ _ h3 t]
      rfl
    · cases h
theorem resT_ext {n : Nat} {ds : List Bool} {q : List Int × List Bool} (h : resT n ds = some q) (t : List Bool) : resT n (ds ++ t) = some (q.1, q.2 ++ t) := by
  unfold resT at h ⊢
  obtain ⟨r, h1, h2⟩ := Option.bind_eq_some_iff.1 h
  rw [takeD_ext h1 t]
  simp only [Option.bind_some]
  split at h2
  · cases h2
  · rename_i hk
    rw [if_neg hk]
    exact ricesT_ext _ _ _ _ h2 t
theorem bodyT_ext {K n : Nat} {x : List Int} {ds : List Bool} {q : List Int × List Bool} (h : bodyT K n x ds = some q) (t : List Bool) : bodyT K n x (ds ++ t) = some (q.1, q.2 ++ t) := by
  unfold bodyT at h ⊢
  by_cases h0 : K = 0
  · rw [if_pos h0] at h ⊢; cases h; rfl
  rw [if_neg h0] at h ⊢
  by_cases h1 : K = 1
  · rw [if_pos h1] at h ⊢; cases h; rfl
  rw [if_neg h1] at h ⊢
  by_cases h6 : K ≤ 6
  · rw [if_pos h6] at h ⊢
    obtain ⟨r, g1, g2⟩ := Option.bind_eq_some_iff.1 h
    rw [resT_ext g1 t]
    simp only [Option.bind_some]
    split at g2
    · rename_i hz; rw [if_pos hz]; cases g2; rfl
    · cases g2
  · rw [if_neg h6] at h ⊢
    obtain ⟨c, g0, g⟩ := Option.bind_eq_some_iff.1 h
    obtain ⟨r, g1, g2⟩ := Option.bind_eq_some_iff.1 g
    rw [coefsT_ext _ _ _ g0 t]
    simp only [Option.bind_some]
    rw [resT_ext g1 t]
    simp only [Option.bind_some]
    split at g2
    · rename_i hz; rw [if_pos hz]; cases g2; rfl
    · cases g2
theorem decP_ext {ds : List Bool} {q : List Int × List Bool} (h : decP ds = some q) (t : List Bool) : decP (ds ++ t) = some (q.1, q.2 ++ t) := by
  unfold decP at h ⊢
  obtain ⟨r1, h1, h⟩ := Option.bind_eq_some_iff.1 h
  obtain ⟨r2, h2, h⟩ := Option.bind_eq_some_iff.1 h
  rw [takeD_ext h1 t]
  simp only [Option.bind_some]
  rw [takeD_ext h2 t]
  simp only [Option.bind_some]
  split at h
  · cases h
  · rename_i hg
    rw [if_neg hg]
    obtain ⟨r3, h3, h⟩ := Option.bind_eq_some_iff.1 h
    rw [sampsT_ext _ _ _ h3 t]
    simp only [Option.bind_some]
    exact bodyT_ext h t
/-- A frame that is cut short is none. -/
theorem decD_cut {kind : Int} {x : List Int} {s : Nat} {D E F : List Bool} (h : frm kind x s = some D) (t : List Bool) (e : D ++ t = E ++ F) (hl : E.length < D.length) : decD E = none := by
  cases hE : decP E with
  | none => rw [decD_P, hE]; rfl
  | some q =>
    have h1 := decP_ext hE F
    rw [← e, decP_tail h t] at h1
    cases h1
    have h2 := congrArg List.length e
    simp at h2
    omega
theorem decD_short8 {kind : Int} {x : List Int} {s : Nat} {D : List Bool} (h : frm kind x s = some D) : decD (unpack ((pack D).take ((pack D).length - 1))) = none := by
  have hD := (frm_ne h).1
  refine decD_cut (t := List.replicate ((8 - D.length % 8) % 8) false) (F := unpack ((pack D).drop ((pack D).length - 1))) h ?_ (by simp; omega)
  rw [← unpack_pack, ← unpack_append, List.take_append_drop]

end Go.Proofs.YthkfaackkcdcoabGreat

/- How long frames are: small numbers, samples that are all alike, lines; no program. -/
namespace Go.Proofs.YthkfaackkcdcoabGreat
set_option linter.unusedVariables false
set_option linter.unusedSimpArgs false
open Go.RowKit Dg

theorem len_residD {l : List Int} (h : okZ l) : ((residD l).length : Int) = 5 + sumSize (zigs l) (parOf l : Int) := by
  have := (length_digs (zigs l) (parOf l) (okZ_num h) (parOf_le l)).1
  unfold residD
  simp only [List.length_append, length_dig]
  omega
theorem best_le (l : List Int) (k : Nat) (hk : k ≤ 24) : sumSize (zigs l) (parOf l : Int) ≤ sumSize (zigs l) (k : Int) := by
  have h1 := bestTo_size (zigs l) 24
  have h2 := (bestTo_least (zigs l) 24 k hk).1
  unfold parOf
  rw [h1] at h2
  exact h2
theorem sumSize_cons (z : Int) (l : List Int) (k : Int) : sumSize (z :: l) k = sizeOf1 z k + sumSize l k := by simp [sumSize]
theorem sumSize_app (l m : List Int) (k : Int) : sumSize (l ++ m) k = sumSize l k + sumSize m k := by
  induction l with
  | nil => simp [sumSize]
  | cons z l ih => rw [List.cons_append, sumSize_cons, sumSize_cons, ih]; omega
theorem sumSize_le {l : List Int} {k M : Int} (h : ∀ z ∈ l, sizeOf1 z k ≤ M) : sumSize l k ≤ M * (l.length : Int) := by
  induction l with
  | nil => simp [sumSize]
  | cons z l ih =>
    have h1 := h z (by simp)
    have h2 := ih (fun y hy => h y (by simp [hy]))
    rw [sumSize_cons, List.length_cons]
    have e : M * ((l.length + 1 : Nat) : Int) = M * (l.length : Int) + M := by rw [show ((l.length + 1 : Nat) : Int) = (l.length : Int) + 1 by omega, Int.mul_add, Int.mul_one]
    omega
theorem sizeOf1_at {z : Int} {k : Nat} (hz : isNum z = true) (hk : k ≤ 24) : sizeOf1 z (k : Int) = sizeIn z k := by
  unfold sizeOf1
  rw [if_pos ⟨hz, by simp [isPar]; omega⟩, Int.toNat_natCast]
theorem sizeIn_ge {z : Int} (hz : 0 ≤ z) {k : Nat} (hk : k ≤ 24) : 1 + (k : Int) ≤ sizeIn z k := by
  have := quot_le z k hz
  unfold sizeIn
  split <;> omega
theorem sumSize_ge {l : List Int} {k : Nat} (h : ∀ z ∈ l, isNum z = true) (hk : k ≤ 24) : (l.length : Int) ≤ sumSize l (k : Int) := by
  induction l with
  | nil => simp [sumSize]
  | cons z l ih =>
    have h1 := h z (by simp)
    have h2 := ih (fun y hy => h y (by simp [hy]))
    have h3 := sizeIn_ge (isNum_true h1).1 hk
    rw [sumSize_cons, List.length_cons, sizeOf1_at h1 hk]
    omega
theorem residZ_zero (x : List Int) : residZ x 0 = x := by
  unfold residZ
  refine List.ext_getElem? (fun i => ?_)
  by_cases hi : i < x.length
  · rw [List.getElem?_map, List.getElem?_range (by omega)]
    have e : guessZ (x.take (0 + i)) (coefs ((0 : Nat) : Int)) = 0 := rfl
    simp only [Option.map_some]
    rw [e, Nat.zero_add, Int.sub_zero]
    simp [List.getD, hi]
  · rw [List.getElem?_eq_none (by simp; omega), List.getElem?_eq_none (by omega)]
/-- The frame of order 0. -/
theorem frm_two {x : List Int} (h : mayX x) (hz : okZ x) (s : Nat) : frm 2 x s = some (headD 2 x.length ++ [] ++ residD x) := by
  unfold frm
  rw [if_neg (by simp [h]), if_neg (by decide), if_neg (by decide), if_pos (by decide)]
  have e : ((2 : Int) - 2).toNat = 0 := rfl
  rw [e, residZ_zero, if_neg (by omega), if_pos hz]
  rfl
theorem best_small {x : List Int} (h : mayX x) (hs : ∀ v ∈ x, 0 ≤ v ∧ v ≤ 15) (s : Nat) : (bestF x s 19).length ≤ 21 + 6 * x.length := by
  have hzz : ∀ v ∈ x, zigOf v = 2 * v := fun v hv => by
    have := hs v hv
    unfold zigOf
    rw [if_neg (by omega), if_neg (by omega)]
  have hok : okZ x := by
    intro z hz
    obtain ⟨v, hv, rfl⟩ := List.mem_map.1 hz
    rw [hzz v hv]
    have := hs v hv
    omega
  obtain ⟨i, -, -, h3⟩ := bestF_any h s
  have h4 := (h3 2 _ (by decide) (frm_two h hok s)).1
  have h5 := len_residD hok
  have h6 := best_le x 4 (by decide)
  have h7 : sumSize (zigs x) ((4 : Nat) : Int) ≤ 6 * ((zigs x).length : Int) := by
    refine sumSize_le (fun z hz => ?_)
    rw [sizeOf1_at (okZ_num hok z hz) (by decide)]
    obtain ⟨v, hv, rfl⟩ := List.mem_map.1 hz
    rw [hzz v hv]
    have := hs v hv
    unfold sizeIn
    split
    · omega
    · omega
  rw [length_zigs] at h7
  simp at h4
  omega
theorem okZ_len {l : List Int} (h : okZ l) : 5 + l.length ≤ (residD l).length := by
  have h1 := len_residD h
  have h2 := sumSize_ge (okZ_num h) (parOf_le l)
  rw [length_zigs] at h2
  omega
/-- Every frame that is no constant has more digits than one, where there are 20 samples and more. -/
theorem frm_long {k : Nat} {x : List Int} {s : Nat} {D : List Bool} (h : frm (k : Int) x s = some D) (hk : k ≠ 0) (hx : 20 ≤ x.length) : 41 ≤ D.length := by
  unfold frm at h
  by_cases hb : ¬ mayX x ∨ (k : Int) < 0 ∨ 18 < (k : Int)
  · rw [if_pos hb] at h; cases h
  rw [if_neg hb, if_neg (by omega)] at h
  by_cases h1 : (k : Int) = 1
  · rw [if_pos h1] at h; cases h; simp; omega
  rw [if_neg h1] at h
  by_cases h6 : (k : Int) ≤ 6
  · rw [if_pos h6] at h
    by_cases hl : (x.length : Int) < (k : Int) - 2
    · rw [if_pos hl] at h; cases h
    rw [if_neg hl] at h
    by_cases hz : okZ (residZ x ((k : Int) - 2).toNat)
    · rw [if_pos hz] at h
      cases h
      have := okZ_len hz
      simp at this ⊢
      omega
    · rw [if_neg hz] at h; cases h
  rw [if_neg h6] at h
  obtain ⟨⟨c, b⟩, hc⟩ : ∃ R, R = coOut x ((k : Int) - 6) s := ⟨_, rfl⟩
  rw [← hc] at h
  simp only at h
  cases b with
  | false => simp at h
  | true =>
    rw [if_pos rfl] at h
    obtain ⟨g1, g2, g3, g4, g5⟩ := coOut_true hc.symm
    by_cases hz : okZ (lresidZ x c)
    · rw [if_pos hz] at h
      cases h
      have := okZ_len hz
      simp at this ⊢
      omega
    · rw [if_neg hz] at h; cases h
theorem best_const {x : List Int} (h : mayX x) (hall : allOne x) (hx : 20 ≤ x.length) (s : Nat) : frm 0 x s = some (bestF x s 19) ∧ (bestF x s 19).length = 40 := by
  have h0 : frm 0 x s = some (headD 0 x.length ++ sampD (x.getD 0 0)) := by
    unfold frm
    rw [if_neg (by simp [h]), if_pos rfl, if_pos hall]
  obtain ⟨i, h1, h2, h3⟩ := bestF_any h s
  have h4 := (h3 0 _ (by decide) h0).1
  simp at h4
  by_cases hi : i = 0
  · subst hi
    have h5 : frm 0 x s = some (bestF x s 19) := h2
    rw [h0] at h5
    refine ⟨h2, ?_⟩
    have h6 := Option.some.inj h5
    rw [← h6]
    simp
  · have := frm_long h2 hi hx
    omega
/-- Two numbers that lie ten apart have no few digits. -/
theorem pair_ge {a b : Int} (ha : isNum (zigOf a) = true) (hb : isNum (zigOf b) = true) (hs1 : -2000000 ≤ a ∧ a ≤ 2000000) (hs2 : -2000000 ≤ b ∧ b ≤ 2000000) (h : a + 10 ≤ b) {k : Nat} (hk : k ≤ 24) : 8 ≤ sizeOf1 (zigOf a) (k : Int) + sizeOf1 (zigOf b) (k : Int) := by
  rw [sizeOf1_at ha hk, sizeOf1_at hb hk]
  have h1 := sizeIn_ge (isNum_true ha).1 hk
  have h2 := sizeIn_ge (isNum_true hb).1 hk
  by_cases h3 : 3 ≤ k
  · omega
  · have ez : 18 ≤ zigOf a + zigOf b := by
      have za : zigOf a = if a < 0 then -2 * a - 1 else 2 * a := by unfold zigOf; rw [if_neg (by omega)]
      have zb : zigOf b = if b < 0 then -2 * b - 1 else 2 * b := by unfold zigOf; rw [if_neg (by omega)]
      rw [za, zb]
      split <;> split <;> omega
    have hz1 := (isNum_true ha).1
    have hz2 := (isNum_true hb).1
    unfold sizeIn
    rcases (by omega : k = 0 ∨ k = 1 ∨ k = 2) with rfl | rfl | rfl
    · split <;> split <;> omega
    · split <;> split <;> omega
    · split <;> split <;> omega
theorem pairs_ge (A B : List Int) (k : Nat) (hl : A.length = B.length) (h : ∀ (i : Nat) (a b : Int), A[i]? = some a → B[i]? = some b → 8 ≤ sizeOf1 a (k : Int) + sizeOf1 b (k : Int)) : 8 * (A.length : Int) ≤ sumSize A (k : Int) + sumSize B (k : Int) := by
  induction A generalizing B with
  | nil => cases B with
    | nil => simp [sumSize]
    | cons b B => simp at hl
  | cons a A ih => cases B with
    | nil => simp at hl
    | cons b B =>
      have h1 := h 0 a b rfl rfl
      have h2 := ih B (by simpa using hl) (fun i x y hx hy => h (i + 1) x y (by simpa using hx) (by simpa using hy))
      rw [sumSize_cons, sumSize_cons, List.length_cons]
      omega
/-- A line. -/
structure Line (x : List Int) (v st : Int) : Prop where
  len1 : 20 ≤ x.length
  len2 : x.length ≤ 64
  at_ : ∀ i : Nat, i < x.length → x[i]? = some (v + st * (i : Int))
  v1 : -524288 ≤ v
  v2 : v ≤ 524288
  st1 : 1 ≤ st
  st2 : st ≤ 1000
theorem Line.small {x : List Int} {v st : Int} (h : Line x v st) {y : Int} (hy : y ∈ x) : -2000000 ≤ y ∧ y ≤ 2000000 := by
  obtain ⟨i, hi, e⟩ := List.getElem_of_mem hy
  have h1 := h.at_ i hi
  rw [List.getElem?_eq_getElem hi, e] at h1
  cases h1
  have h2 : 0 ≤ st * (i : Int) := Int.mul_nonneg (by have := h.st1; omega) (by omega)
  have h3 : st * (i : Int) ≤ 1000 * (i : Int) := Int.mul_le_mul_of_nonneg_right h.st2 (by omega)
  have := h.v1
  have := h.v2
  have := h.len2
  omega
theorem Line.may {x : List Int} {v st : Int} (h : Line x v st) : mayX x := ⟨by have := h.len1; omega, h.len2, fun y hy => by have := h.small hy; unfold isS; omega⟩
theorem Line.get {x : List Int} {v st : Int} (h : Line x v st) {i : Nat} (hi : i < x.length) : at0 x i = v + st * (i : Int) := getD_of (h.at_ i hi)
theorem Line.resid {x : List Int} {v st : Int} (h : Line x v st) : residZ x 2 = List.replicate (x.length - 2) 0 := by
  refine List.eq_replicate_iff.2 ⟨by simp, fun y hy => ?_⟩
  obtain ⟨j, hj, e⟩ := List.getElem_of_mem hy
  have hj' : 2 + j < x.length := by simp at hj; omega
  have h1 := residZ_at x 2 j (by decide) hj'
  rw [List.getElem?_eq_getElem hj, e] at h1
  have h2 := Option.some.inj h1
  rw [h2]
  have e2 : tell 2 (at0 x) (2 + j) = 2 * at0 x (1 + j) - at0 x j := by
    show 2 * at0 x (2 + j - 1) - at0 x (2 + j - 2) = _
    rw [show 2 + j - 1 = 1 + j by omega, show 2 + j - 2 = j by omega]
  rw [e2, h.get hj', h.get (by omega), h.get (by omega)]
  have b1 : ((2 + j : Nat) : Int) = (j : Int) + 2 := by omega
  have b2 : ((1 + j : Nat) : Int) = (j : Int) + 1 := by omega
  rw [b1, b2]
  grind
theorem zeros_ok (m : Nat) : okZ (List.replicate m 0) := by
  intro z hz
  obtain ⟨v, hv, rfl⟩ := List.mem_map.1 hz
  have := List.eq_of_mem_replicate hv
  subst this
  decide
theorem zeros_sum (m : Nat) : sumSize (zigs (List.replicate m 0)) ((0 : Nat) : Int) = (m : Int) := by
  induction m with
  | zero => rfl
  | succ m ih =>
    have e : zigs (List.replicate (m + 1) 0) = 0 :: zigs (List.replicate m 0) := rfl
    rw [e, sumSize_cons, ih]
    have : sizeOf1 0 ((0 : Nat) : Int) = 1 := by decide
    omega
theorem Line.four {x : List Int} {v st : Int} (h : Line x v st) (s : Nat) : ∃ D, frm 4 x s = some D ∧ D.length ≤ 67 + x.length := by
  have hz := zeros_ok (x.length - 2)
  have h1 := h.len1
  refine ⟨headD 4 x.length ++ sampsD (x.take 2) ++ residD (List.replicate (x.length - 2) 0), ?_, ?_⟩
  · unfold frm
    rw [if_neg (by simp [h.may]), if_neg (by decide), if_neg (by decide), if_pos (by decide)]
    have e : ((4 : Int) - 2).toNat = 2 := rfl
    rw [e, h.resid, if_neg (by omega), if_pos hz]
  · have h2 := len_residD hz
    have h3 := best_le (List.replicate (x.length - 2) 0) 0 (by decide)
    rw [zeros_sum] at h3
    simp
    omega
theorem Line.zig_num {x : List Int} {v st : Int} (h : Line x v st) : okZ x := by
  intro z hz
  obtain ⟨y, hy, rfl⟩ := List.mem_map.1 hz
  have := h.small hy
  unfold zigOf
  rw [if_neg (by omega)]
  split <;> omega
theorem Line.sum {x : List Int} {v st : Int} (h : Line x v st) {k : Nat} (hk : k ≤ 24) : 60 + (x.length : Int) ≤ sumSize (zigs x) (k : Int) := by
  have hl := h.len1
  have e : zigs x = zigs (x.take 10) ++ (zigs ((x.drop 10).take 10) ++ zigs (x.drop 20)) := by
    unfold zigs
    rw [← List.map_append, ← List.map_append]
    congr 1
    have e1 : x.drop 20 = (x.drop 10).drop 10 := by rw [List.drop_drop]
    rw [e1, List.take_append_drop, List.take_append_drop]
  have hn := okZ_num h.zig_num
  have h1 : 8 * ((zigs (x.take 10)).length : Int) ≤ sumSize (zigs (x.take 10)) (k : Int) + sumSize (zigs ((x.drop 10).take 10)) (k : Int) := by
    refine pairs_ge _ _ k (by simp; omega) (fun i a b ha hb => ?_)
    unfold zigs at ha hb
    rw [List.getElem?_map] at ha hb
    obtain ⟨p, hp, rfl⟩ := Option.map_eq_some_iff.1 ha
    obtain ⟨q, hq, rfl⟩ := Option.map_eq_some_iff.1 hb
    have hi : i < 10 := by have := (List.getElem?_eq_some_iff.1 hp).1; simp at this; omega
    rw [List.getElem?_take, if_pos hi] at hp hq
    rw [List.getElem?_drop] at hq
    have gp := h.at_ i (by omega)
    have gq := h.at_ (10 + i) (by omega)
    rw [hp] at gp
    rw [hq] at gq
    have mp := List.mem_of_getElem? hp
    have mq := List.mem_of_getElem? hq
    refine pair_ge (hn _ (List.mem_map.2 ⟨p, mp, rfl⟩)) (hn _ (List.mem_map.2 ⟨q, mq, rfl⟩)) (h.small mp) (h.small mq) ?_ hk
    cases gp
    cases gq
    have e3 : st * ((10 + i : Nat) : Int) = st * 10 + st * (i : Int) := by rw [show ((10 + i : Nat) : Int) = 10 + (i : Int) by omega, Int.mul_add]
    have := h.st1
    rw [e3]
    omega
  have h2 : ((zigs (x.drop 20)).length : Int) ≤ sumSize (zigs (x.drop 20)) (k : Int) := by
    refine sumSize_ge (fun z hz => hn z ?_) hk
    rw [e]
    simp [hz]
  rw [e, sumSize_app, sumSize_app]
  simp at h1 h2
  omega
/-- The shortest frame of a line has a predictor. -/
theorem Line.best {x : List Int} {v st : Int} (h : Line x v st) (s : Nat) : ∃ i : Nat, 3 ≤ i ∧ i < 19 ∧ frm (i : Int) x s = some (bestF x s 19) ∧ ∃ D, frm 4 x s = some D ∧ (bestF x s 19).length ≤ D.length := by
  obtain ⟨D, hD, hDl⟩ := h.four s
  obtain ⟨i, h1, h2, h3⟩ := bestF_any h.may s
  have h4 := (h3 4 D (by decide) hD).1
  have hl := h.len1
  refine ⟨i, ?_, h1, h2, D, hD, h4⟩
  rcases (by omega : i = 0 ∨ i = 1 ∨ i = 2 ∨ 3 ≤ i) with rfl | rfl | rfl | hi
  · exfalso
    have h5 : frm 0 x s = some (bestF x s 19) := h2
    unfold frm at h5
    rw [if_neg (by simp [h.may]), if_pos rfl] at h5
    by_cases ha : allOne x
    · have g0 := h.at_ 0 (by omega)
      have g1 := h.at_ 1 (by omega)
      have a1 := ha _ (List.mem_of_getElem? g1)
      rw [getD_of g0] at a1
      have := h.st1
      simp at a1
      omega
    · rw [if_neg ha] at h5; cases h5
  · exfalso
    have h5 : frm 1 x s = some (bestF x s 19) := h2
    rw [frm_verb h.may] at h5
    have h6 := Option.some.inj h5
    rw [← h6] at h4
    simp at h4
    omega
  · exfalso
    have h5 : frm 2 x s = some (bestF x s 19) := h2
    rw [frm_two h.may h.zig_num] at h5
    have h6 := Option.some.inj h5
    rw [← h6] at h4
    have h7 := len_residD h.zig_num
    have h8 := h.sum (parOf_le x)
    simp at h4
    omega
  · exact hi

end Go.Proofs.YthkfaackkcdcoabGreat

/- The document's example of law08. -/
namespace Go.Proofs.YthkfaackkcdcoabGreat
set_option linter.unusedVariables false
set_option linter.unusedSimpArgs false
open Go.RowKit Dg

theorem shift_may (l : List Int) : ∃ s, mayX l → IsShift (autoZ l 0) s := by
  by_cases h : mayX l
  · have := autoZ_small h.2.2 h.2.1 0
    obtain ⟨s, -, hs⟩ := shift_exists (autoZ_zero l) (by omega)
    exact ⟨s, fun _ => hs⟩
  · exact ⟨0, fun h' => absurd h' h⟩
theorem encOut_may {x : List Int} (h : mayX x) (s : Nat) : encOut x s = (pack (bestF x s 19), 0) := by
  unfold encOut
  rw [if_neg (by have := h.1; have := h.2.1; omega), if_pos h.2.2]
/-- Every frame but a constant, verbatim and order 0 has at least 45 digits. -/
theorem frm_min {k : Nat} {x : List Int} {s : Nat} {D : List Bool} (h : frm (k : Int) x s = some D) (hk : 3 ≤ k) : 45 ≤ D.length := by
  unfold frm at h
  by_cases hb : ¬ mayX x ∨ (k : Int) < 0 ∨ 18 < (k : Int)
  · rw [if_pos hb] at h; cases h
  rw [if_neg hb, if_neg (by omega), if_neg (by omega)] at h
  by_cases h6 : (k : Int) ≤ 6
  · rw [if_pos h6] at h
    by_cases hl : (x.length : Int) < (k : Int) - 2
    · rw [if_pos hl] at h; cases h
    rw [if_neg hl] at h
    by_cases hz : okZ (residZ x ((k : Int) - 2).toNat)
    · rw [if_pos hz] at h
      cases h
      have := okZ_len hz
      simp at this ⊢
      omega
    · rw [if_neg hz] at h; cases h
  rw [if_neg h6] at h
  obtain ⟨⟨c, b⟩, hc⟩ : ∃ R, R = coOut x ((k : Int) - 6) s := ⟨_, rfl⟩
  rw [← hc] at h
  simp only at h
  cases b with
  | false => simp at h
  | true =>
    rw [if_pos rfl] at h
    obtain ⟨g1, g2, g3, g4, g5⟩ := coOut_true hc.symm
    by_cases hz : okZ (lresidZ x c)
    · rw [if_pos hz] at h
      cases h
      have := okZ_len hz
      simp at this ⊢
      omega
    · rw [if_neg hz] at h; cases h
theorem wake_best (s : Nat) : frm 2 [7, 7, 7] s = some (bestF [7, 7, 7] s 19) ∧ (bestF [7, 7, 7] s 19).length = 36 := by
  have hm : mayX [7, 7, 7] := by decide
  have hz : okZ [7, 7, 7] := by decide
  have e2 := frm_two hm hz s
  have e0 : frm 0 [7, 7, 7] s = some (headD 0 3 ++ sampD 7) := by
    unfold frm
    rw [if_neg (by simp [hm]), if_pos rfl, if_pos (by decide)]
    rfl
  have hl : (residD [7, 7, 7]).length = 20 := by decide +kernel
  obtain ⟨i, h1, h2, h3⟩ := bestF_any hm s
  have h4 := (h3 2 _ (by decide) e2).1
  simp [hl] at h4
  rcases (by omega : i = 0 ∨ i = 1 ∨ i = 2 ∨ 3 ≤ i) with rfl | rfl | rfl | hi
  · exfalso
    have h5 : frm 0 [7, 7, 7] s = some (bestF [7, 7, 7] s 19) := h2
    rw [e0] at h5
    have h6 := Option.some.inj h5
    rw [← h6] at h4
    simp at h4
  · exfalso
    have h5 : frm 1 [7, 7, 7] s = some (bestF [7, 7, 7] s 19) := h2
    rw [frm_verb hm] at h5
    have h6 := Option.some.inj h5
    rw [← h6] at h4
    simp at h4
  · refine ⟨h2, ?_⟩
    have h5 : frm 2 [7, 7, 7] s = some (bestF [7, 7, 7] s 19) := h2
    rw [e2] at h5
    have h6 := Option.some.inj h5
    rw [← h6]
    simp [hl]
  · have := frm_min h2 hi
    omega

set_option maxHeartbeats 1000000 in
theorem wakes8_any (w : World) : Calls Tryz.prog 8 #[] w fun e w' => e = .returned (.bool true) ∧ Below w.heap.size w w' := by
  obtain ⟨s, hs⟩ := shift_may [7, 7, 7]
  have HS := hid_of hs
  obtain ⟨P, hP⟩ : ∃ P, P = pack (bestF [7, 7, 7] s 19) := ⟨_, rfl⟩
  have HR : Hid ((P, 0) = encOut [7, 7, 7] s) := by show _ = _; rw [encOut_may (by decide), hP]
  have HPL : Hid (P.length = 5) := by show _ = _; rw [hP, length_pack, (wake_best s).2]
  have HK : Hid (2 = kindOut P) := by show _ = _; rw [hP, kindOut_pack (wake_best s).1]
  have HP256 : Hid (∀ x ∈ P, x < 256) := by rw [hP]; exact pack_lt _
  clear hs hP
  go_enter Tryz.func8, Tryz.ntmps8
  go_wp2_with fail
  have HA : Hid (Ns (w.alloc (.cells #[.int .i64 7, .int .i64 7, .int .i64 7] 3)) (some ⟨w.heap.size, 0, none⟩) 3 [7, 7, 7]) := Ns.lit w [7, 7, 7] 3 rfl (by decide) _ rfl
  have HB0 : Hid (Below w.heap.size w (w.alloc (.cells #[.int .i64 7, .int .i64 7, .int .i64 7] 3))) := (Below.refl _ _).alloc (Nat.le_refl _) _
  generalize w.alloc (.cells #[.int .i64 7, .int .i64 7, .int .i64 7] 3) = w1 at *
  have hs1 : w.heap.size ≤ w1.heap.size := HB0.out.size
  refine (fenc_any w1 s _ 3 [7, 7, 7] HA.out (by decide) HS.out _ HR.out).mono ?_
  rintro e w2 ⟨v2, rfl, h2, hb2⟩
  obtain ⟨a2, c2, rfl, hc2⟩ := SlAt.of_owns h2
  have HSL : Hid (SlAt w2 (.slice a2 P.length c2) P) := ⟨a2, c2, rfl, hc2⟩
  have HB2 : Hid (Below w.heap.size w w2) := HB0.out.trans (hb2.mono hs1)
  have hpb : ((P.length : Int) == 5) = true := beq_iff_eq.2 (by rw [HPL.out]; rfl)
  have hp6 : P.length ≤ 1000000 := by rw [HPL.out]; decide
  clear h2 hb2 hc2
  go_wp2_with fail
  refine (fkind_any w2 _ P HSL.out hp6 HP256.out 2 HK.out).mono ?_
  rintro e w3 ⟨rfl, hb3⟩
  have HB3 : Hid (Below w.heap.size w w3) := HB2.out.trans (hb3.mono HB2.out.size)
  clear hb3
  go_wp2
  go_ret
  exact ⟨rfl, HB3.out⟩

end Go.Proofs.YthkfaackkcdcoabGreat

/- The document's own Decode: verbatim. -/
namespace Go.Proofs.YthkfaackkcdcoabGreat
set_option linter.unusedVariables false
set_option linter.unusedSimpArgs false
open Go.RowKit Dg

set_option maxRecDepth 100000 in
set_option maxHeartbeats 4000000 in
theorem rdec_verb (w : World) (v : Value) (l : List Nat) (h : SlAt w v l) (hl : l.length ≤ 1000000) (hby : ∀ x ∈ l, x < 256) (K n : Nat) (hg1 : getOut (left l 0) 8 = (K, 8, true)) (hg2 : getOut (left l (0 + 8)) 8 = (n, 8, true)) (hK : K = 1) (hn1 : 1 ≤ n) (hn2 : n ≤ 64) (R : List Int × Int) (hR : R = outOf ((sampsT n (left l 16)).bind (finT K n))) :
    Calls Tryz.prog 17 #[v] w fun e w' => Gave w w' R e := by
  have HSL := hid_of h
  have HBY := hid_of hby
  clear h hby
  have HG1 := hid_of hg1
  have HG2 := hid_of hg2
  clear hg1 hg2
  obtain ⟨T, hT⟩ : ∃ T, T = sampsT n (left l 16) := ⟨_, rfl⟩
  have HT := hid_of hT
  have HR : Hid (R = outOf (T.bind (finT K n))) := by show _ = _; rw [hR, hT]
  clear hR hT
  have hb0 : (K == 0) = false := beq_eq_false_iff_ne.2 (by omega)
  have hb1 : (K == 1) = true := beq_iff_eq.2 hK
  have hK6 : K ≤ 6 := by omega
  have hK1 : K ≤ 1 := by omega
  have hK18 : K ≤ 18 := by omega
  have HK := hid_of hK
  clear hK
  go_enter Tryz.func17, Tryz.ntmps17
  go_wp2_with fail
  refine (of_any w v l HSL.out hl HBY.out).mono ?_
  rintro e w1 ⟨v1, rfl, h1, hb1⟩
  have HBT1 : Hid (BtAt w1 v1 (left l 0)) := by show BtAt _ _ _; rw [left_zero]; exact BtAt.of_owns h1
  have HB1 := hid_of hb1
  clear h1 hb1
  go_wp2_with fail
  refine (rget_all' w1 v1 l 0 8 HBT1.out _ HG1.out).mono ?_
  rintro e w2 ⟨v2, rfl, hb2, -, m2, rfl⟩
  have HBT2 := hid_of hb2
  clear hb2 HBT1
  go_wp2_with fail
  refine (rget_all' (w1.drewN m2) v2 l _ 8 HBT2.out _ HG2.out).mono ?_
  rintro e w3 ⟨v3, rfl, hb3, -, m3, rfl⟩
  have HBT3 : Hid (BtAt (w1.drewN (m2 + m3)) v3 (left l (0 + 8 + 8))) := hb3
  have HB3 : Hid (Below w.heap.size w (w1.drewN (m2 + m3))) := below_drewN HB1.out (m2 + m3)
  clear hb3 HBT2 HB1
  go_wp2_with fail
  generalize w1.drewN (m2 + m3) = w4 at *
  have hs4 : w.heap.size ≤ w4.heap.size := HB3.out.size
  refine (rsamples_any w4 v3 l 16 n HBT3.out (by omega) T HT.out).mono ?_
  intro e w5 hg
  cases hTT : T with
  | none =>
    rw [hTT] at hg
    have HN : Hid (R = ([], 2)) := by show _ = _; rw [HR.out, hTT]; rfl
    obtain ⟨x5, v5, rfl, hb5⟩ := hg
    have HB5 : Hid (Below w.heap.size w w5) := HB3.out.trans (hb5.mono hs4)
    clear hb5 hTT
    go_wp2_with fail
    go_ret2
    exact Gave.none HN.out HB5.out
  | some q =>
    obtain ⟨xs, r⟩ := q
    rw [hTT] at hg
    obtain ⟨x5, v5, p, rfl, ho5, hbt5, hr, hv5, hb5⟩ := hg
    simp only at ho5 hr
    have HXL : Hid (xs.length = n) := sampsT_len _ _ _ (HT.out.symm.trans hTT)
    have HR2 : Hid (R = outOf (finT K n (xs, left l p))) := by show _ = _; rw [HR.out, hTT, hr]; rfl
    have HB5 : Hid (Below w.heap.size w w5) := HB3.out.trans (hb5.mono hs4)
    have hs5 : w.heap.size ≤ w5.heap.size := HB5.out.size
    have HBT5 := hid_of hbt5
    have HO5 := hid_of ho5
    have HV5 : Hid (∀ k, v5.ownBlock = some k → k < w4.heap.size) := fun k hk => HBT3.out.lt k (hv5 k hk)
    have HLP := hid_of (left_short l p hl)
    have HBTW := hid_of hbt5
    have HBW := hid_of HB5.out
    have HOW : Hid (OwnInts w5 w.heap.size x5 xs) := ho5.base hs4
    clear ho5 hbt5 hr hv5 hb5 hTT
    go_wp2_with fail
    go_loopw [4, 11, 12] (fun b c i ws => v5 = b ∧ c = .slice none 0 0 ∧ i = .int .i64 0 ∧ w5 = ws) (fun _ _ _ _ => 0)
    case atStart => exact ⟨rfl, rfl, rfl, rfl⟩
    case round =>
      obtain ⟨rfl, rfl, rfl, rfl⟩ := hrel
      by_cases hno : noOnes (left l p) = true
      · have HQ : Hid (true = noOnes (left l p)) := hno.symm
        have HFIN : Hid (R = (xs, 0)) := by show _ = _; rw [HR2.out, HK.out, finT_verb, if_pos hno]; rfl
        clear hno
        go_wp2_with fail
        refine (rrest_all' w5 v5 _ HBTW.out HLP.out true HQ.out).mono ?_
        rintro e w9 ⟨rfl, rfl⟩
        go_wp2_with fail
        go_ret2
        rw [HFIN.out]
        exact ⟨_, rfl, HOW.out, HBW.out⟩
      · have hno' : noOnes (left l p) = false := by simpa using hno
        have HQ : Hid (false = noOnes (left l p)) := hno'.symm
        have HFIN : Hid (R = ([], 2)) := by show _ = _; rw [HR2.out, HK.out, finT_verb, if_neg hno]; rfl
        clear hno hno'
        go_wp2_with fail
        refine (rrest_all' w5 v5 _ HBTW.out HLP.out false HQ.out).mono ?_
        rintro e w9 ⟨rfl, rfl⟩
        go_wp2_with fail
        go_ret2
        exact Gave.none HFIN.out HBW.out

end Go.Proofs.YthkfaackkcdcoabGreat

/- The document's own Decode: fixed. -/
namespace Go.Proofs.YthkfaackkcdcoabGreat
set_option linter.unusedVariables false
set_option linter.unusedSimpArgs false
open Go.RowKit Dg

set_option maxRecDepth 100000 in
set_option maxHeartbeats 4000000 in
theorem rdec_fixed (w : World) (v : Value) (l : List Nat) (h : SlAt w v l) (hl : l.length ≤ 1000000) (hby : ∀ x ∈ l, x < 256) (K n : Nat) (hg1 : getOut (left l 0) 8 = (K, 8, true)) (hg2 : getOut (left l (0 + 8)) 8 = (n, 8, true)) (hK2 : 2 ≤ K) (hK6 : K ≤ 6) (o : Nat) (ho : o = K - 2) (hno : o ≤ n) (hn1 : 1 ≤ n) (hn2 : n ≤ 64) (R : List Int × Int) (hR : R = outOf ((sampsT o (left l 16)).bind (finT K n))) :
    Calls Tryz.prog 17 #[v] w fun e w' => Gave w w' R e := by
  have HSL := hid_of h
  have HBY := hid_of hby
  clear h hby
  have HG1 := hid_of hg1
  have HG2 := hid_of hg2
  clear hg1 hg2
  obtain ⟨T, hT⟩ : ∃ T, T = sampsT o (left l 16) := ⟨_, rfl⟩
  have HT := hid_of hT
  have HR : Hid (R = outOf (T.bind (finT K n))) := by show _ = _; rw [hR, hT]
  clear hR hT
  have hb0 : (K == 0) = false := beq_eq_false_iff_ne.2 (by omega)
  have hb1 : (K == 1) = false := beq_eq_false_iff_ne.2 (by omega)
  have hoI : (K : Int) - 2 = (o : Int) := by omega
  have hK1 : 1 < K := by omega
  have hK18 : K ≤ 18 := by omega
  have ho4 : o ≤ 4 := by omega
  have HOO : Hid (ordOf K n = o) := by show _ = _; unfold ordOf; rw [if_neg (by omega), if_neg (by omega), if_pos hK6]; exact ho.symm
  obtain ⟨m, hm⟩ : ∃ m, m = n - o := ⟨_, rfl⟩
  have hmI : (n : Int) - (o : Int) = (m : Int) := by omega
  have hm64 : m ≤ 64 := by omega
  have HME := hid_of hm
  clear ho hm
  go_enter Tryz.func17, Tryz.ntmps17
  go_wp2_with fail
  refine (of_any w v l HSL.out hl HBY.out).mono ?_
  rintro e w1 ⟨v1, rfl, h1, hb1⟩
  have HBT1 : Hid (BtAt w1 v1 (left l 0)) := by show BtAt _ _ _; rw [left_zero]; exact BtAt.of_owns h1
  have HB1 := hid_of hb1
  clear h1 hb1
  go_wp2_with fail
  refine (rget_all' w1 v1 l 0 8 HBT1.out _ HG1.out).mono ?_
  rintro e w2 ⟨v2, rfl, hb2, -, m2, rfl⟩
  have HBT2 := hid_of hb2
  clear hb2 HBT1
  go_wp2_with fail
  refine (rget_all' (w1.drewN m2) v2 l _ 8 HBT2.out _ HG2.out).mono ?_
  rintro e w3 ⟨v3, rfl, hb3, -, m3, rfl⟩
  have HBT3 : Hid (BtAt (w1.drewN (m2 + m3)) v3 (left l (0 + 8 + 8))) := hb3
  have HB3 : Hid (Below w.heap.size w (w1.drewN (m2 + m3))) := below_drewN HB1.out (m2 + m3)
  clear hb3 HBT2 HB1
  go_wp2_with fail
  generalize w1.drewN (m2 + m3) = w4 at *
  have hs4 : w.heap.size ≤ w4.heap.size := HB3.out.size
  refine (rsamples_any w4 v3 l 16 o HBT3.out (by omega) T HT.out).mono ?_
  intro e w5 hg
  cases hTT : T with
  | none =>
    rw [hTT] at hg
    have HN : Hid (R = ([], 2)) := by show _ = _; rw [HR.out, hTT]; rfl
    obtain ⟨x5, v5, rfl, hb5⟩ := hg
    have HB5 : Hid (Below w.heap.size w w5) := HB3.out.trans (hb5.mono hs4)
    clear hb5 hTT
    go_wp2_with fail
    go_ret2
    exact Gave.none HN.out HB5.out
  | some q =>
    obtain ⟨xs, r⟩ := q
    rw [hTT] at hg
    obtain ⟨x5, v5, p, rfl, ho5, hbt5, hr, hv5, hb5⟩ := hg
    simp only at ho5 hr
    have HXL : Hid (xs.length = o) := sampsT_len _ _ _ (HT.out.symm.trans hTT)
    have HR2 : Hid (R = outOf (finT K n (xs, left l p))) := by show _ = _; rw [HR.out, hTT, hr]; rfl
    have HB5 : Hid (Below w.heap.size w w5) := HB3.out.trans (hb5.mono hs4)
    have hs5 : w.heap.size ≤ w5.heap.size := HB5.out.size
    have HBT5 := hid_of hbt5
    have HO5 := hid_of ho5
    have HV5 : Hid (∀ k, v5.ownBlock = some k → k < w4.heap.size) := fun k hk => HBT3.out.lt k (hv5 k hk)
    have HLP := hid_of (left_short l p hl)
    have hbt5' := hbt5
    clear ho5 hbt5 hr hv5 hb5 hTT hbt5'
    obtain ⟨xa, xc, rfl, hxn, -, -⟩ := HO5.out.ns
    have HXN := hid_of hxn
    clear hxn
    obtain ⟨T2, hT2⟩ : ∃ T2, T2 = resT m (left l p) := ⟨_, rfl⟩
    have HT2 := hid_of hT2
    have HR3 : Hid (R = outOf ((T2.bind fun q => if (restOut xs q.1).2 = 0 then some ((restOut xs q.1).1, q.2) else none).bind fun y => if noOnes y.2 = true then some y.1 else none)) := by
      show _ = _
      rw [HR2.out, finT, bodyT, if_neg (by omega), if_neg (by omega), if_pos hK6, HOO.out, ← HME.out, hT2]
    clear hT2
    go_wp2_with fail
    go_loopw [4, 11, 12] (fun b c i ws => v5 = b ∧ c = .slice none 0 0 ∧ i = .int .i64 0 ∧ w5 = ws) (fun _ _ _ _ => 0)
    case atStart => exact ⟨rfl, rfl, rfl, rfl⟩
    case round =>
      obtain ⟨rfl, rfl, rfl, rfl⟩ := hrel
      go_wp2_with fail
      refine (rtakeres_any w5 v5 l p m HBT5.out (by omega) T2 HT2.out).mono ?_
      intro e w6 hg
      cases hTT : T2 with
      | none =>
        rw [hTT] at hg
        have HN : Hid (R = ([], 2)) := by show _ = _; rw [HR3.out, hTT]; rfl
        obtain ⟨x6, v6, rfl, hb6⟩ := hg
        have HB6 : Hid (Below w.heap.size w w6) := HB5.out.trans (hb6.mono hs5)
        clear hb6 hTT
        go_wp2_with fail
        go_ret2
        exact Gave.none HN.out HB6.out
      | some q =>
        obtain ⟨zs, r2⟩ := q
        rw [hTT] at hg
        obtain ⟨x6, v6, p2, rfl, ho6, hbt6, hr2, -, hb6⟩ := hg
        simp only at ho6 hr2
        obtain ⟨hi6, hl6⟩ := resT_i64 (HT2.out.symm.trans hTT)
        simp only at hi6 hl6
        obtain ⟨za, zc, rfl, hzn, -, -⟩ := ho6.ns
        have HZN := hid_of hzn.at_
        have HI6 := hid_of hi6
        have hl64 : zs.length ≤ 64 := by omega
        have HXN6 : Hid (Ns w6 xa xc xs) := HXN.out.mono hb6
        have HB6 : Hid (Below w.heap.size w w6) := HB5.out.trans (hb6.mono hs5)
        have hs6 : w.heap.size ≤ w6.heap.size := HB6.out.size
        have HBT6 := hid_of hbt6
        have hxl4 : xs.length ≤ 4 := by rw [HXL.out]; exact ho4
        obtain ⟨⟨Y, k⟩, hRY⟩ : ∃ RY, RY = restOut xs zs := ⟨_, rfl⟩
        have HRY := hid_of hRY
        have HR4 : Hid (R = outOf ((if k = 0 then some (Y, left l p2) else none).bind fun y => if noOnes y.2 = true then some y.1 else none)) := by
          show _ = _
          rw [HR3.out, hTT, hr2]
          simp only [Option.bind_some]
          rw [← hRY]
        have HLP2 := hid_of (left_short l p2 hl)
        clear ho6 hbt6 hr2 hb6 hTT hi6 hl6 hzn hRY
        go_wp2_with fail
        refine (rrest_any w6 xa za xc zc xs zs HXN6.out HZN.out (by omega) (by omega) HI6.out _ HRY.out).mono ?_
        rintro e w7 hg
        obtain ⟨a7, c7, rfl, ho7, -, hb7⟩ := hg.ok
        have HO7 := hid_of ho7
        have HB7 : Hid (Below w.heap.size w w7) := HB6.out.trans (hb7.mono hs6)
        have HBT7 : Hid (BtAt w7 v6 (left l p2)) := HBT6.out.below hb7
        clear hg ho7 hb7
        by_cases hk0 : k = 0
        · have hkb : (k != 0) = false := by simp [hk0]
          have HR5 : Hid (R = outOf (if noOnes (left l p2) = true then some Y else none)) := by show _ = _; rw [HR4.out, if_pos hk0]; rfl
          clear hk0
          by_cases hno : noOnes (left l p2) = true
          · have HQ : Hid (true = noOnes (left l p2)) := hno.symm
            have HFIN : Hid (R = (Y, 0)) := by show _ = _; rw [HR5.out, if_pos hno]; rfl
            clear hno
            go_wp2_with fail
            refine (rrest_all' w7 v6 _ HBT7.out HLP2.out true HQ.out).mono ?_
            rintro e w9 ⟨rfl, rfl⟩
            go_wp2_with fail
            go_ret2
            rw [HFIN.out]
            exact ⟨_, rfl, (HO7.out.base hs6), HB7.out⟩
          · have hno' : noOnes (left l p2) = false := by simpa using hno
            have HQ : Hid (false = noOnes (left l p2)) := hno'.symm
            have HFIN : Hid (R = ([], 2)) := by show _ = _; rw [HR5.out, if_neg hno]; rfl
            clear hno hno'
            go_wp2_with fail
            refine (rrest_all' w7 v6 _ HBT7.out HLP2.out false HQ.out).mono ?_
            rintro e w9 ⟨rfl, rfl⟩
            go_wp2_with fail
            go_ret2
            exact Gave.none HFIN.out HB7.out
        · have hkb : (k != 0) = true := by simp [hk0]
          have HN : Hid (R = ([], 2)) := by show _ = _; rw [HR4.out, if_neg hk0]; rfl
          clear hk0
          go_wp2_with fail
          go_ret2
          exact Gave.none HN.out HB7.out

end Go.Proofs.YthkfaackkcdcoabGreat

/- The document's own Decode: constant. -/
namespace Go.Proofs.YthkfaackkcdcoabGreat
set_option linter.unusedVariables false
set_option linter.unusedSimpArgs false
open Go.RowKit Dg

def lenV : Value → Nat
  | .slice _ n _ => n
  | _ => 0

set_option maxRecDepth 100000 in
set_option maxHeartbeats 4000000 in
theorem rdec_const (w : World) (v : Value) (l : List Nat) (h : SlAt w v l) (hl : l.length ≤ 1000000) (hby : ∀ x ∈ l, x < 256) (K n : Nat) (hg1 : getOut (left l 0) 8 = (K, 8, true)) (hg2 : getOut (left l (0 + 8)) 8 = (n, 8, true)) (hK : K = 0) (hn1 : 1 ≤ n) (hn2 : n ≤ 64) (R : List Int × Int) (hR : R = outOf ((sampsT 1 (left l 16)).bind (finT K n))) :
    Calls Tryz.prog 17 #[v] w fun e w' => Gave w w' R e := by
  obtain ⟨i0, hi, hz0, hz1, hz2⟩ := info_parts Tryz.info3
  have HSL := hid_of h
  have HBY := hid_of hby
  clear h hby
  have HG1 := hid_of hg1
  have HG2 := hid_of hg2
  clear hg1 hg2
  obtain ⟨T, hT⟩ : ∃ T, T = sampsT 1 (left l 16) := ⟨_, rfl⟩
  have HT := hid_of hT
  have HR : Hid (R = outOf (T.bind (finT K n))) := by show _ = _; rw [hR, hT]
  clear hR hT
  have hb0 : (K == 0) = true := beq_iff_eq.2 hK
  have hK6 : K ≤ 6 := by omega
  have hK1 : K ≤ 1 := by omega
  have hK18 : K ≤ 18 := by omega
  have HK := hid_of hK
  clear hK
  go_enter Tryz.func17, Tryz.ntmps17
  go_wp2_with fail
  refine (of_any w v l HSL.out hl HBY.out).mono ?_
  rintro e w1 ⟨v1, rfl, h1, hb1⟩
  have HBT1 : Hid (BtAt w1 v1 (left l 0)) := by show BtAt _ _ _; rw [left_zero]; exact BtAt.of_owns h1
  have HB1 := hid_of hb1
  clear h1 hb1
  go_wp2_with fail
  refine (rget_all' w1 v1 l 0 8 HBT1.out _ HG1.out).mono ?_
  rintro e w2 ⟨v2, rfl, hb2, -, m2, rfl⟩
  have HBT2 := hid_of hb2
  clear hb2 HBT1
  go_wp2_with fail
  refine (rget_all' (w1.drewN m2) v2 l _ 8 HBT2.out _ HG2.out).mono ?_
  rintro e w3 ⟨v3, rfl, hb3, -, m3, rfl⟩
  have HBT3 : Hid (BtAt (w1.drewN (m2 + m3)) v3 (left l (0 + 8 + 8))) := hb3
  have HB3 : Hid (Below w.heap.size w (w1.drewN (m2 + m3))) := below_drewN HB1.out (m2 + m3)
  clear hb3 HBT2 HB1
  go_wp2_with fail
  generalize w1.drewN (m2 + m3) = w4 at *
  have hs4 : w.heap.size ≤ w4.heap.size := HB3.out.size
  refine (rsamples_any w4 v3 l 16 1 HBT3.out (by omega) T HT.out).mono ?_
  intro e w5 hg
  cases hTT : T with
  | none =>
    rw [hTT] at hg
    have HN : Hid (R = ([], 2)) := by show _ = _; rw [HR.out, hTT]; rfl
    obtain ⟨x5, v5, rfl, hb5⟩ := hg
    have HB5 : Hid (Below w.heap.size w w5) := HB3.out.trans (hb5.mono hs4)
    clear hb5 hTT
    go_wp2_with fail
    go_ret2
    exact Gave.none HN.out HB5.out
  | some q =>
    obtain ⟨xs, r⟩ := q
    rw [hTT] at hg
    obtain ⟨x5, v5, p, rfl, ho5, hbt5, hr, hv5, hb5⟩ := hg
    simp only at ho5 hr
    have HXL : Hid (xs.length = 1) := sampsT_len _ _ _ (HT.out.symm.trans hTT)
    have HR2 : Hid (R = outOf (finT K n (xs, left l p))) := by show _ = _; rw [HR.out, hTT, hr]; rfl
    have HB5 : Hid (Below w.heap.size w w5) := HB3.out.trans (hb5.mono hs4)
    have hs5 : w.heap.size ≤ w5.heap.size := HB5.out.size
    have HBT5 := hid_of hbt5
    have HO5 := hid_of ho5
    have HV5 : Hid (∀ k, v5.ownBlock = some k → k < w4.heap.size) := fun k hk => HBT3.out.lt k (hv5 k hk)
    have HLP := hid_of (left_short l p hl)
    have hs45 : w4.heap.size ≤ w5.heap.size := hb5.size
    clear ho5 hbt5 hr hv5 hb5 hTT
    obtain ⟨x0, hx0⟩ : ∃ x0, xs[0]? = some x0 := ⟨xs[0]'(by rw [HXL.out]; decide), by simp⟩
    have HX0 := hid_of (getD_of hx0)
    have HALL : Hid (∀ y ∈ xs, y = x0) := by
      intro y hy
      have h1 := HXL.out
      match xs, h1, hx0, hy with
      | [z], _, h2, h3 => simp at h2 h3; rw [h3, h2]
    have hxs1 : xs.length ≤ n := by rw [HXL.out]; exact hn1
    have hxs2 : 1 ≤ xs.length := by rw [HXL.out]; exact Nat.le_refl _
    clear hx0
    go_wp2_with fail
    go_loopw [10] (fun u ws => ∃ L : List Int, 1 ≤ L.length ∧ L.length ≤ n ∧ Hid (∀ y ∈ L, y = x0) ∧ Hid (OwnInts ws w4.heap.size u L) ∧ Hid (Below w4.heap.size w5 ws)) (fun u _ => n - lenV u)
    case atStart => exact ⟨xs, hxs2, hxs1, HALL.out, HO5.out, Below.refl _ _⟩
    case round =>
      obtain ⟨L, hL1, hL2, hall, ho, hb⟩ := hrel
      obtain ⟨xa, xc, rfl, hxn, -, -⟩ := ho.out.ns
      have HXN := hid_of hxn.at_
      have hsz : w4.heap.size ≤ wr.heap.size := Nat.le_trans hs45 hb.out.size
      clear hxn
      by_cases hLn : L.length < n
      · have hL0 : L[0]? = some x0 := by
          have h1 : L[0]? = some (L[0]'(by omega)) := by simp
          rw [h1, hall.out _ (List.getElem_mem (by omega))]
        obtain ⟨b, off, rfl, hc⟩ := HXN.out 0 x0 hL0
        rw [Nat.add_zero] at hc
        have hl6 : L.length ≤ 1000000 := by omega
        clear hL0
        go_wp2_with (at_builtin; go_must (refine wpList_append_int wr rfl (.tmp 93) (.tmp 97) 22 rfl w4.heap.size i0 Tryz.underlying22 hi hz0 hz1 hz2 (.slice (some ⟨b, off, none⟩) L.length xc) L (by rfl) ho.out x0 (by rfl) hl6 hsz ?_))
        intro v' w' g1 g2
        have HB' : Hid (Below w4.heap.size w5 w') := hb.out.trans g2.out
        have HA' : Hid (∀ y ∈ L ++ [x0], y = x0) := by
          intro y hy
          rcases List.mem_append.1 hy with h1 | h1
          · exact hall.out y h1
          · simpa using h1
        obtain ⟨a', c', rfl, -, -⟩ := g1.out.ns
        clear g2
        go_wp2_with fail
        exact ⟨⟨L ++ [x0], by simp, by simp; omega, HA', g1, HB'⟩, by (simp [lenV]) <;> omega⟩
      · have hLe : L.length = n := by omega
        have HLE : Hid (L = List.replicate n x0) := List.eq_replicate_iff.2 ⟨hLe, hall.out⟩
        have hLn' : n ≤ L.length := by omega
        have HBTW : Hid (BtAt wr v5 (left l p)) := HBT5.out.under hb.out HV5.out
        have HBW : Hid (Below w.heap.size w wr) := HB5.out.trans (hb.out.mono hs4)
        have HOW : Hid (OwnInts wr w.heap.size (.slice xa L.length xc) L) := ho.out.base hs4
        clear hLe hLn hall ho hb
        go_wp2_with fail
        go_loopw [4, 11, 12] (fun b c i ws => v5 = b ∧ c = .slice none 0 0 ∧ i = .int .i64 0 ∧ wr = ws) (fun _ _ _ _ => 0)
        case atStart => exact ⟨rfl, rfl, rfl, rfl⟩
        case round =>
          obtain ⟨rfl, rfl, rfl, rfl⟩ := hrel
          by_cases hno : noOnes (left l p) = true
          · have HQ : Hid (true = noOnes (left l p)) := hno.symm
            have HFIN : Hid (R = (L, 0)) := by show _ = _; rw [HR2.out, HK.out, finT_const, if_pos hno, HX0.out, HLE.out]; rfl
            clear hno
            go_wp2_with fail
            refine (rrest_all' wr v5 _ HBTW.out HLP.out true HQ.out).mono ?_
            rintro e w9 ⟨rfl, rfl⟩
            go_wp2_with fail
            go_ret2
            rw [HFIN.out]
            exact ⟨_, rfl, HOW.out, HBW.out⟩
          · have hno' : noOnes (left l p) = false := by simpa using hno
            have HQ : Hid (false = noOnes (left l p)) := hno'.symm
            have HFIN : Hid (R = ([], 2)) := by show _ = _; rw [HR2.out, HK.out, finT_const, if_neg hno]; rfl
            clear hno hno'
            go_wp2_with fail
            refine (rrest_all' wr v5 _ HBTW.out HLP.out false HQ.out).mono ?_
            rintro e w9 ⟨rfl, rfl⟩
            go_wp2_with fail
            go_ret2
            exact Gave.none HFIN.out HBW.out

end Go.Proofs.YthkfaackkcdcoabGreat
