/- Frames, on: which is the shortest; a frame that is cut short; the first byte; no program. -/
import Derived.Test.YtlonnoapbfjomabGreatFrmMath
namespace Go.Proofs.YtlonnoapbfjomabGreat
set_option linter.unusedVariables false
set_option linter.unusedSimpArgs false
open Go.RowKit Dg

theorem frm_verb {x : List Int} (h : mayX x) (s : Nat) : frm 1 x s = some (headD 1 x.length ++ sampsD x) := by
  unfold frm
  rw [if_neg (by simp [h]), if_neg (by decide), if_pos rfl]
theorem frm_ne {kind : Int} {x : List Int} {s : Nat} {D : List Bool} (h : frm kind x s = some D) : 16 ≤ D.length ∧ mayX x ∧ 0 ≤ kind ∧ kind ≤ 18 ∧ ∃ E, D = headD kind x.length ++ E := by
  have key : ∀ E, D = headD kind x.length ++ E → 16 ≤ D.length := fun E e => by rw [e]; simp
  unfold frm at h
  by_cases hk : ¬ mayX x ∨ kind < 0 ∨ 18 < kind
  · rw [if_pos hk] at h; cases h
  rw [if_neg hk] at h
  have hm : mayX x := by
    by_cases hm : mayX x
    · exact hm
    · exact absurd (Or.inl hm) hk
  have fin : (∃ E, D = headD kind x.length ++ E) → 16 ≤ D.length ∧ mayX x ∧ 0 ≤ kind ∧ kind ≤ 18 ∧ ∃ E, D = headD kind x.length ++ E := fun ⟨E, e⟩ => ⟨key E e, hm, by omega, by omega, E, e⟩
  apply fin
  by_cases h0 : kind = 0
  · rw [if_pos h0] at h
    by_cases ha : allOne x
    · rw [if_pos ha] at h; cases h; exact ⟨_, rfl⟩
    · rw [if_neg ha] at h; cases h
  rw [if_neg h0] at h
  by_cases h1 : kind = 1
  · rw [if_pos h1] at h; cases h; exact ⟨_, rfl⟩
  rw [if_neg h1] at h
  by_cases h6 : kind ≤ 6
  · rw [if_pos h6] at h
    by_cases hl : (x.length : Int) < kind - 2
    · rw [if_pos hl] at h; cases h
    rw [if_neg hl] at h
    by_cases hz : okZ (residZ x (kind - 2).toNat)
    · rw [if_pos hz] at h; cases h; exact ⟨_, List.append_assoc _ _ _⟩
    · rw [if_neg hz] at h; cases h
  rw [if_neg h6] at h
  by_cases hc : (coOut x (kind - 6) s).2 = true
  · rw [if_pos hc] at h
    by_cases hz : okZ (lresidZ x (coOut x (kind - 6) s).1)
    · rw [if_pos hz] at h; cases h; exact ⟨_, by simp only [List.append_assoc]; rfl⟩
    · rw [if_neg hz] at h; cases h
  · rw [if_neg hc] at h; cases h
/-- The shortest of the first kinds is one of them, and none is shorter. -/
theorem bestF_cases (x : List Int) (s j : Nat) : (bestF x s j = [] ∧ ∀ i, i < j → frm (i : Int) x s = none) ∨ ∃ i, i < j ∧ frm (i : Int) x s = some (bestF x s j) ∧ ∀ k D, k < j → frm (k : Int) x s = some D → (bestF x s j).length ≤ D.length ∧ (k < i → (bestF x s j).length < D.length) := by
  induction j with
  | zero => exact .inl ⟨rfl, fun i hi => by omega⟩
  | succ j ih =>
    cases hF : frm (j : Int) x s with
    | none =>
      have e : bestF x s (j + 1) = bestF x s j := by simp only [bestF]; rw [hF]
      rw [e]
      rcases ih with ⟨h1, h2⟩ | ⟨i, h1, h2, h3⟩
      · refine .inl ⟨h1, fun i hi => ?_⟩
        rcases (by omega : i < j ∨ i = j) with h | h
        · exact h2 i h
        · rw [h]; exact hF
      · refine .inr ⟨i, by omega, h2, fun k D hk hD => ?_⟩
        rcases (by omega : k < j ∨ k = j) with h | h
        · exact h3 k D h hD
        · rw [h, hF] at hD; cases hD
    | some b =>
      have hb := (frm_ne hF).1
      have e : bestF x s (j + 1) = if (bestF x s j).length = 0 ∨ b.length < (bestF x s j).length then b else bestF x s j := by simp only [bestF]; rw [hF]
      rcases ih with ⟨h1, h2⟩ | ⟨i, h1, h2, h3⟩
      · have e2 : bestF x s (j + 1) = b := by rw [e, if_pos (.inl (by rw [h1]; rfl))]
        rw [e2]
        refine .inr ⟨j, by omega, hF, fun k D hk hD => ?_⟩
        rcases (by omega : k < j ∨ k = j) with h | h
        · rw [h2 k h] at hD; cases hD
        · rw [h, hF] at hD; cases hD; exact ⟨Nat.le_refl _, fun h => by omega⟩
      · have hbe := (frm_ne h2).1
        by_cases hlt : b.length < (bestF x s j).length
        · have e2 : bestF x s (j + 1) = b := by rw [e, if_pos (.inr hlt)]
          rw [e2]
          refine .inr ⟨j, by omega, hF, fun k D hk hD => ?_⟩
          rcases (by omega : k < j ∨ k = j) with h | h
          · have := (h3 k D h hD).1
            exact ⟨by omega, fun _ => by omega⟩
          · rw [h, hF] at hD; cases hD; exact ⟨Nat.le_refl _, fun h => by omega⟩
        · have e2 : bestF x s (j + 1) = bestF x s j := by rw [e, if_neg (by omega)]
          rw [e2]
          refine .inr ⟨i, by omega, h2, fun k D hk hD => ?_⟩
          rcases (by omega : k < j ∨ k = j) with h | h
          · exact h3 k D h hD
          · rw [h, hF] at hD; cases hD; exact ⟨by omega, fun h => by omega⟩
/-- Of samples that may be there is a shortest frame. -/
theorem bestF_any {x : List Int} (h : mayX x) (s : Nat) : ∃ i : Nat, i < 19 ∧ frm (i : Int) x s = some (bestF x s 19) ∧ ∀ (k : Nat) (D : List Bool), k < 19 → frm (k : Int) x s = some D → (bestF x s 19).length ≤ D.length ∧ (k < i → (bestF x s 19).length < D.length) := by
  rcases bestF_cases x s 19 with ⟨-, h2⟩ | h1
  · have := h2 1 (by decide)
    rw [show ((1 : Nat) : Int) = 1 from rfl, frm_verb h s] at this
    cases this
  · exact h1
theorem bestF_verb {x : List Int} (h : mayX x) (s : Nat) : (bestF x s 19).length ≤ 16 + 24 * x.length := by
  obtain ⟨i, -, -, h3⟩ := bestF_any h s
  have := (h3 1 _ (by decide) (frm_verb h s)).1
  simp at this
  exact this
/-- Bytes behind bytes. -/
theorem unpack_append (l m : List Nat) : unpack (l ++ m) = unpack l ++ unpack m := by simp [unpack]
theorem unpack_zeros (k : Nat) : unpack (List.replicate k 0) = List.replicate (8 * k) false := by
  induction k with
  | zero => rfl
  | succ k ih =>
    rw [List.replicate_succ, unpack_cons, ih]
    have e : (List.range 8).map (digitOf 0) = List.replicate 8 false := by decide
    rw [e, List.replicate_append_replicate]
    congr 1
    omega
/-- A frame's bytes, and anything behind them. -/
theorem decD_pack {kind : Int} {x : List Int} {s : Nat} {D : List Bool} (h : frm kind x s = some D) (m : List Nat) : decD (unpack (pack D ++ m)) = if noOnes (unpack m) = true then some x else none := by
  rw [unpack_append, unpack_pack, List.append_assoc, decD_tail h]
  have e : noOnes (List.replicate ((8 - D.length % 8) % 8) false ++ unpack m) = noOnes (unpack m) := by
    unfold noOnes
    rw [List.any_append]
    simp
  rw [e]
theorem decOut_pack {kind : Int} {x : List Int} {s : Nat} {D : List Bool} (h : frm kind x s = some D) (E : Int) : decOut E (pack D) = (x, 0) := by
  have := decD_pack h []
  rw [List.append_nil, if_pos (by rfl)] at this
  unfold decOut
  rw [this]
theorem pack_first {kind : Int} {n : Nat} {E : List Bool} (h0 : 0 ≤ kind) (h1 : kind ≤ 18) : (pack (headD kind n ++ E)).getD 0 0 = kind.toNat := by
  have hl : 0 < ((headD kind n ++ E).length + 7) / 8 := by simp; omega
  rw [List.getD, pack_get _ 0 hl]
  simp only [Option.getD_some]
  have hu := unpack_pack (headD kind n ++ E)
  have hx := byteAt_lt (headD kind n ++ E) 0
  obtain ⟨b, hb⟩ : ∃ b, b = byteAt (headD kind n ++ E) 0 := ⟨_, rfl⟩
  rw [← hb] at hx ⊢
  have e1 : (unpack (pack (headD kind n ++ E))).take 8 = dig (b : Int) 8 := by
    have e2 : pack (headD kind n ++ E) = b :: (pack (headD kind n ++ E)).tail := by
      have h2 := pack_get (headD kind n ++ E) 0 hl
      cases hp : pack (headD kind n ++ E) with
      | nil => rw [hp] at h2; simp at h2
      | cons y ys => rw [hp] at h2; simp at h2; rw [hb, h2]; rfl
    rw [e2, unpack_cons, ← dig8, List.take_left' (by simp)]
  have e3 : (unpack (pack (headD kind n ++ E))).take 8 = dig kind 8 := by
    rw [hu]
    unfold headD
    simp only [List.append_assoc]
    rw [List.take_left' (by simp)]
  have h4 := num_dig (b : Int) 8
  have h5 := num_dig kind 8
  rw [← e1, e3, h5] at h4
  omega
theorem kindOut_pack {kind : Int} {x : List Int} {s : Nat} {D : List Bool} (h : frm kind x s = some D) : kindOut (pack D) = kind := by
  have h1 := decD_pack h []
  rw [List.append_nil, if_pos (by rfl)] at h1
  obtain ⟨-, -, h2, h3, E, rfl⟩ := frm_ne h
  unfold kindOut
  rw [h1]
  simp only
  rw [pack_first h2 h3]
  omega

theorem takeD_ext {ds : List Bool} {n : Nat} {q : Nat × List Bool} (h : takeD ds n = some q) (t : List Bool) : takeD (ds ++ t) n = some (q.1, q.2 ++ t) := by
  unfold takeD at h ⊢
  split at h
  · rename_i hl
    cases h
    rw [if_pos (by simp; omega), List.take_append_of_le_length hl, List.drop_append_of_le_length hl]
  · cases h
theorem sampsT_ext : ∀ (n : Nat) (ds : List Bool) (q : List Int × List Bool), sampsT n ds = some q → ∀ t, sampsT n (ds ++ t) = some (q.1, q.2 ++ t) := by
  intro n
  induction n with
  | zero => intro ds q h t; simp [sampsT] at h ⊢; subst h; exact ⟨rfl, rfl⟩
  | succ n ih =>
    intro ds q h t
    rw [sampsT] at h ⊢
    obtain ⟨r, h1, h2⟩ := Option.bind_eq_some_iff.1 h
    obtain ⟨q', h3, rfl⟩ := Option.map_eq_some_iff.1 h2
    rw [takeD_ext h1 t]
    simp only [Option.bind_some]
    rw [ih _ _ h3 t]
    rfl
theorem coefsT_ext : ∀ (n : Nat) (ds : List Bool) (q : List Int × List Bool), coefsT n ds = some q → ∀ t, coefsT n (ds ++ t) = some (q.1, q.2 ++ t) := by
  intro n
  induction n with
  | zero => intro ds q h t; simp [coefsT] at h ⊢; subst h; exact ⟨rfl, rfl⟩
  | succ n ih =>
    intro ds q h t
    rw [coefsT] at h ⊢
    obtain ⟨r, h1, h2⟩ := Option.bind_eq_some_iff.1 h
    obtain ⟨q', h3, rfl⟩ := Option.map_eq_some_iff.1 h2
    rw [takeD_ext h1 t]
    simp only [Option.bind_some]
    rw [ih _ _ h3 t]
    rfl
theorem getOut_ext {ds : List Bool} {n : Int} (h : (getOut ds n).2.2 = true) (t : List Bool) : getOut (ds ++ t) n = getOut ds n ∧ (getOut ds n).2.1 ≤ ds.length := by
  unfold getOut at h ⊢
  by_cases hc : 0 ≤ n ∧ n ≤ 62 ∧ n ≤ ds.length
  · rw [if_pos hc, if_pos ⟨hc.1, hc.2.1, by simp; omega⟩, List.take_append_of_le_length (by omega)]
    exact ⟨rfl, by simp; omega⟩
  · rw [if_neg hc] at h; cases h
theorem lead_ext (t : List Bool) : ∀ (ds : List Bool) (m : Nat), (lead ds m = m ∨ lead ds m < ds.length) → lead (ds ++ t) m = lead ds m := by
  intro ds
  induction ds with
  | nil =>
    intro m h
    cases m with
    | zero => cases t <;> rfl
    | succ m => rcases h with h | h <;> simp [lead] at h
  | cons d ds ih =>
    intro m h
    cases m with
    | zero => rfl
    | succ m =>
      cases d with
      | false => rfl
      | true =>
        simp only [List.cons_append, lead] at h ⊢
        rw [ih m (by simp at h; omega)]
theorem onesOut_ext {ds : List Bool} {n : Int} (h : (onesOut ds n).2.2 = true) (t : List Bool) : onesOut (ds ++ t) n = onesOut ds n ∧ (onesOut ds n).2.1 ≤ ds.length := by
  unfold onesOut at h ⊢
  by_cases hc : 0 ≤ n ∧ n ≤ 1024
  · rw [if_pos hc] at h
    rw [if_pos hc, if_pos hc]
    have hle := lead_le_length ds n.toNat
    by_cases h1 : lead ds n.toNat = n.toNat
    · rw [lead_ext t ds _ (.inl h1), if_pos h1, if_pos h1]
      exact ⟨rfl, by simp; omega⟩
    · rw [if_neg h1] at h
      by_cases h2 : lead ds n.toNat = ds.length
      · rw [if_pos h2] at h; cases h
      · rw [lead_ext t ds _ (.inr (by omega)), if_neg h1, if_neg h1, if_neg h2, if_neg (by simp; omega)]
        exact ⟨rfl, by simp; omega⟩
  · rw [if_neg hc] at h; cases h
theorem riceOut_ext {ds : List Bool} {k : Int} (h : (riceOut ds k).2.2 = true) (t : List Bool) : riceOut (ds ++ t) k = riceOut ds k ∧ (riceOut ds k).2.1 ≤ ds.length := by
  unfold riceOut at h ⊢
  by_cases hp : isPar k = true
  case neg => rw [if_neg hp] at h; cases h
  rw [if_pos hp] at h
  rw [if_pos hp, if_pos hp]
  by_cases ho : (onesOut ds 24).2.2 = true
  case neg => rw [if_neg ho] at h; cases h
  obtain ⟨e1, e2⟩ := onesOut_ext ho t
  rw [if_pos ho] at h
  rw [e1, if_pos ho, if_pos ho]
  have hk := isPar_true hp
  rcases onesOut_cases ds with hc | hc | ⟨c, hc24, hc⟩
  · rw [hc] at ho; cases ho
  · rw [hc] at h e2 ⊢
    simp only [if_true] at h e2 ⊢
    by_cases hg : (getOut (ds.drop 24) 32).2.2 = true ∧ 24 ≤ (getOut (ds.drop 24) 32).1 / 2 ^ k.toNat
    · obtain ⟨f1, f2⟩ := getOut_ext hg.1 t
      have f3 : (getOut (ds.drop 24) 32).2.1 = 32 := by
        rcases getOut_cases (ds.drop 24) 32 with h1 | ⟨v, -, -, h1⟩
        · have h2 := hg.1
          rw [show getOut (ds.drop 24) 32 = (0, 0, false) from h1] at h2; cases h2
        · rw [show getOut (ds.drop 24) 32 = (v, 32, true) from h1]
      rw [List.drop_append_of_le_length e2, f1, if_pos hg]
      rw [f3] at f2
      simp at f2
      exact ⟨rfl, by simp; omega⟩
    · rw [if_neg hg] at h; cases h
  · rw [hc] at h e2 ⊢
    have hne : ¬ c = 24 := by omega
    simp only [if_neg hne] at h e2 ⊢
    by_cases hg : (getOut (ds.drop (c + 1)) k).2.2 = true
    · obtain ⟨f1, f2⟩ := getOut_ext hg t
      have f3 : (getOut (ds.drop (c + 1)) k).2.1 = k.toNat := by
        have ek : k = ((k.toNat : Nat) : Int) := by omega
        rcases getOut_cases (ds.drop (c + 1)) k.toNat with h1 | ⟨v, -, -, h1⟩
        · rw [← ek] at h1; rw [h1] at hg; cases hg
        · rw [← ek] at h1; rw [h1]
      rw [List.drop_append_of_le_length e2, f1, if_pos hg]
      rw [f3] at f2
      simp at f2
      exact ⟨rfl, by simp; omega⟩
    · rw [if_neg hg] at h; cases h
theorem ricesT_ext (k : Nat) : ∀ (n : Nat) (ds : List Bool) (q : List Int × List Bool), ricesT k n ds = some q → ∀ t, ricesT k n (ds ++ t) = some (q.1, q.2 ++ t) := by
  intro n
  induction n with
  | zero => intro ds q h t; simp [ricesT] at h ⊢; subst h; exact ⟨rfl, rfl⟩
  | succ n ih =>
    intro ds q h t
    rw [ricesT] at h ⊢
    split at h
    · rename_i ho
      obtain ⟨q', h3, rfl⟩ := Option.map_eq_some_iff.1 h
      obtain ⟨e1, e2⟩ := riceOut_ext ho t
      rw [e1, if_pos ho, List.drop_append_of_le_length e2, ih _ _ h3 t]
      rfl
    · cases h
theorem resT_ext {n : Nat} {ds : List Bool} {q : List Int × List Bool} (h : resT n ds = some q) (t : List Bool) : resT n (ds ++ t) = some (q.1, q.2 ++ t) := by
  unfold resT at h ⊢
  obtain ⟨r, h1, h2⟩ := Option.bind_eq_some_iff.1 h
  rw [takeD_ext h1 t]
  simp only [Option.bind_some]
  split at h2
  · cases h2
  · rename_i hk
    rw [if_neg hk]
    exact ricesT_ext _ _ _ _ h2 t
theorem bodyT_ext {K n : Nat} {x : List Int} {ds : List Bool} {q : List Int × List Bool} (h : bodyT K n x ds = some q) (t : List Bool) : bodyT K n x (ds ++ t) = some (q.1, q.2 ++ t) := by
  unfold bodyT at h ⊢
  by_cases h0 : K = 0
  · rw [if_pos h0] at h ⊢; cases h; rfl
  rw [if_neg h0] at h ⊢
  by_cases h1 : K = 1
  · rw [if_pos h1] at h ⊢; cases h; rfl
  rw [if_neg h1] at h ⊢
  by_cases h6 : K ≤ 6
  · rw [if_pos h6] at h ⊢
    obtain ⟨r, g1, g2⟩ := Option.bind_eq_some_iff.1 h
    rw [resT_ext g1 t]
    simp only [Option.bind_some]
    split at g2
    · rename_i hz; rw [if_pos hz]; cases g2; rfl
    · cases g2
  · rw [if_neg h6] at h ⊢
    obtain ⟨c, g0, g⟩ := Option.bind_eq_some_iff.1 h
    obtain ⟨r, g1, g2⟩ := Option.bind_eq_some_iff.1 g
    rw [coefsT_ext _ _ _ g0 t]
    simp only [Option.bind_some]
    rw [resT_ext g1 t]
    simp only [Option.bind_some]
    split at g2
    · rename_i hz; rw [if_pos hz]; cases g2; rfl
    · cases g2
theorem decP_ext {ds : List Bool} {q : List Int × List Bool} (h : decP ds = some q) (t : List Bool) : decP (ds ++ t) = some (q.1, q.2 ++ t) := by
  unfold decP at h ⊢
  obtain ⟨r1, h1, h⟩ := Option.bind_eq_some_iff.1 h
  obtain ⟨r2, h2, h⟩ := Option.bind_eq_some_iff.1 h
  rw [takeD_ext h1 t]
  simp only [Option.bind_some]
  rw [takeD_ext h2 t]
  simp only [Option.bind_some]
  split at h
  · cases h
  · rename_i hg
    rw [if_neg hg]
    obtain ⟨r3, h3, h⟩ := Option.bind_eq_some_iff.1 h
    rw [sampsT_ext _ _ _ h3 t]
    simp only [Option.bind_some]
    exact bodyT_ext h t
/-- A frame that is cut short is none. -/
theorem decD_cut {kind : Int} {x : List Int} {s : Nat} {D E F : List Bool} (h : frm kind x s = some D) (t : List Bool) (e : D ++ t = E ++ F) (hl : E.length < D.length) : decD E = none := by
  cases hE : decP E with
  | none => rw [decD_P, hE]; rfl
  | some q =>
    have h1 := decP_ext hE F
    rw [← e, decP_tail h t] at h1
    cases h1
    have h2 := congrArg List.length e
    simp at h2
    omega
theorem decD_short8 {kind : Int} {x : List Int} {s : Nat} {D : List Bool} (h : frm kind x s = some D) : decD (unpack ((pack D).take ((pack D).length - 1))) = none := by
  have hD := (frm_ne h).1
  refine decD_cut (t := List.replicate ((8 - D.length % 8) % 8) false) (F := unpack ((pack D).drop ((pack D).length - 1))) h ?_ (by simp; omega)
  rw [← unpack_pack, ← unpack_append, List.take_append_drop]

end Go.Proofs.YtlonnoapbfjomabGreat
