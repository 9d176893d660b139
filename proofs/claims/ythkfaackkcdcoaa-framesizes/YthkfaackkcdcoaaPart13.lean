/- The texts FrmMore, FrmSize, FrmW, Tone, Zeros, LevTwo, one behind the other. -/
import Derived.Test.YthkfaackkcdcoaaPart07
import Derived.Test.YthkfaackkcdcoaaPart12
import Derived.Test.YthkfaackkcdcoaaPart03
import Derived.Deep.CutRange
import Derived.Test.YthkfaackkcdcoaaPart11
import Derived.Lib.AppendZeros
import Derived.Test.YthkfaackkcdcoaaPart09
import Derived.Maps.AppendAt

/- Frames, on: which is the shortest; a frame that is cut short; the first byte; no program. -/
namespace Go.Proofs.Ythkfaackkcdcoaa
set_option linter.unusedVariables false
set_option linter.unusedSimpArgs false
open Go.RowKit Dg

theorem frm_verb {x : List Int} (h : mayX x) (s : Nat) : frm 1 x s = some (headD 1 x.length ++ sampsD x) := by
  unfold frm
  rw [if_neg (by simp [h]), if_neg (by decide), if_pos rfl]
theorem frm_ne {kind : Int} {x : List Int} {s : Nat} {D : List Bool} (h : frm kind x s = some D) : 16 ≤ D.length ∧ mayX x ∧ 0 ≤ kind ∧ kind ≤ 18 ∧ ∃ E, D = headD kind x.length ++ E := by
  have key : ∀ E, D = headD kind x.length ++ E → 16 ≤ D.length := fun E e => by rw [e]; simp
  unfold frm at h
  by_cases hk : ¬ mayX x ∨ kind < 0 ∨ 18 < kind
  · rw [if_pos hk] at h; cases h
  rw [if_neg hk] at h
  have hm : mayX x := by
    by_cases hm : mayX x
    · exact hm
    · exact absurd (Or.inl hm) hk
  have fin : (∃ E, D = headD kind x.length ++ E) → 16 ≤ D.length ∧ mayX x ∧ 0 ≤ kind ∧ kind ≤ 18 ∧ ∃ E, D = headD kind x.length ++ E := fun ⟨E, e⟩ => ⟨key E e, hm, by omega, by omega, E, e⟩
  apply fin
  by_cases h0 : kind = 0
  · rw [if_pos h0] at h
    by_cases ha : allOne x
    · rw [if_pos ha] at h; cases h; exact ⟨_, rfl⟩
    · rw [if_neg ha] at h; cases h
  rw [if_neg h0] at h
  by_cases h1 : kind = 1
  · rw [if_pos h1] at h; cases h; exact ⟨_, rfl⟩
  rw [if_neg h1] at h
  by_cases h6 : kind ≤ 6
  · rw [if_pos h6] at h
    by_cases hl : (x.length : Int) < kind - 2
    · rw [if_pos hl] at h; cases h
    rw [if_neg hl] at h
    by_cases hz : okZ (residZ x (kind - 2).toNat)
    · rw [if_pos hz] at h; cases h; exact ⟨_, List.append_assoc _ _ _⟩
    · rw [if_neg hz] at h; cases h
  rw [if_neg h6] at h
  by_cases hc : (coOut x (kind - 6) s).2 = true
  · rw [if_pos hc] at h
    by_cases hz : okZ (lresidZ x (coOut x (kind - 6) s).1)
    · rw [if_pos hz] at h; cases h; exact ⟨_, by simp only [List.append_assoc]; rfl⟩
    · rw [if_neg hz] at h; cases h
  · rw [if_neg hc] at h; cases h
/-- The shortest of the first kinds is one of them, and none is shorter. -/
theorem bestF_cases (x : List Int) (s j : Nat) : (bestF x s j = [] ∧ ∀ i, i < j → frm (i : Int) x s = none) ∨ ∃ i, i < j ∧ frm (i : Int) x s = some (bestF x s j) ∧ ∀ k D, k < j → frm (k : Int) x s = some D → (bestF x s j).length ≤ D.length ∧ (k < i → (bestF x s j).length < D.length) := by
  induction j with
  | zero => exact .inl ⟨rfl, fun i hi => by omega⟩
  | succ j ih =>
    cases hF : frm (j : Int) x s with
    | none =>
      have e : bestF x s (j + 1) = bestF x s j := by simp only [bestF]; rw [hF]
      rw [e]
      rcases ih with ⟨h1, h2⟩ | ⟨i, h1, h2, h3⟩
      · refine .inl ⟨h1, fun i hi => ?_⟩
        rcases (by omega : i < j ∨ i = j) with h | h
        · exact h2 i h
        · rw [h]; exact hF
      · refine .inr ⟨i, by omega, h2, fun k D hk hD => ?_⟩
        rcases (by omega : k < j ∨ k = j) with h | h
        · exact h3 k D h hD
        · rw [h, hF] at hD; cases hD
    | some b =>
      have hb := (frm_ne hF).1
      have e : bestF x s (j + 1) = if (bestF x s j).length = 0 ∨ b.length < (bestF x s j).length then b else bestF x s j := by simp only [bestF]; rw [hF]
      rcases ih with ⟨h1, h2⟩ | ⟨i, h1, h2, h3⟩
      · have e2 : bestF x s (j + 1) = b := by rw [e, if_pos (.inl (by rw [h1]; rfl))]
        rw [e2]
        refine .inr ⟨j, by omega, hF, fun k D hk hD => ?_⟩
        rcases (by omega : k < j ∨ k = j) with h | h
        · rw [h2 k h] at hD; cases hD
        · rw [h, hF] at hD; cases hD; exact ⟨Nat.le_refl _, fun h => by omega⟩
      · have hbe := (frm_ne h2).1
        by_cases hlt : b.length < (bestF x s j).length
        · have e2 : bestF x s (j + 1) = b := by rw [e, if_pos (.inr hlt)]
          rw [e2]
          refine .inr ⟨j, by omega, hF, fun k D hk hD => ?_⟩
          rcases (by omega : k < j ∨ k = j) with h | h
          · have := (h3 k D h hD).1
            exact ⟨by omega, fun _ => by omega⟩
          · rw [h, hF] at hD; cases hD; exact ⟨Nat.le_refl _, fun h => by omega⟩
        · have e2 : bestF x s (j + 1) = bestF x s j := by rw [e, if_neg (by omega)]
          rw [e2]
          refine .inr ⟨i, by omega, h2, fun k D hk hD => ?_⟩
          rcases (by omega : k < j ∨ k = j) with h | h
          · exact h3 k D h hD
          · rw [h, hF] at hD; cases hD; exact ⟨by omega, fun h => by omega⟩
/-- Of samples that may be there is a shortest frame. -/
theorem bestF_any {x : List Int} (h : mayX x) (s : Nat) : ∃ i : Nat, i < 19 ∧ frm (i : Int) x s = some (bestF x s 19) ∧ ∀ (k : Nat) (D : List Bool), k < 19 → frm (k : Int) x s = some D → (bestF x s 19).length ≤ D.length ∧ (k < i → (bestF x s 19).length < D.length) := by
  rcases bestF_cases x s 19 with ⟨-, h2⟩ | h1
  · have := h2 1 (by decide)
    rw [show ((1 : Nat) : Int) = 1 from rfl, frm_verb h s] at this
    cases this
  · exact h1
theorem bestF_verb {x : List Int} (h : mayX x) (s : Nat) : (bestF x s 19).length ≤ 16 + 24 * x.length := by
  obtain ⟨i, -, -, h3⟩ := bestF_any h s
  have := (h3 1 _ (by decide) (frm_verb h s)).1
  simp at this
  exact this
/-- Bytes behind bytes. -/
theorem unpack_append (l m : List Nat) : unpack (l ++ m) = unpack l ++ unpack m := by simp [unpack]
theorem unpack_zeros (k : Nat) : unpack (List.replicate k 0) = List.replicate (8 * k) false := by
  induction k with
  | zero => rfl
  | succ k ih =>
    rw [List.replicate_succ, unpack_cons, ih]
    have e : (List.range 8).map (digitOf 0) = List.replicate 8 false := by decide
    rw [e, List.replicate_append_replicate]
    congr 1
    omega
/-- A frame's bytes, and anything behind them. -/
theorem decD_pack {kind : Int} {x : List Int} {s : Nat} {D : List Bool} (h : frm kind x s = some D) (m : List Nat) : decD (unpack (pack D ++ m)) = if noOnes (unpack m) = true then some x else none := by
  rw [unpack_append, unpack_pack, List.append_assoc, decD_tail h]
  have e : noOnes (List.replicate ((8 - D.length % 8) % 8) false ++ unpack m) = noOnes (unpack m) := by
    unfold noOnes
    rw [List.any_append]
    simp
  rw [e]
theorem decOut_pack {kind : Int} {x : List Int} {s : Nat} {D : List Bool} (h : frm kind x s = some D) (E : Int) : decOut E (pack D) = (x, 0) := by
  have := decD_pack h []
  rw [List.append_nil, if_pos (by rfl)] at this
  unfold decOut
  rw [this]
theorem pack_first {kind : Int} {n : Nat} {E : List Bool} (h0 : 0 ≤ kind) (h1 : kind ≤ 18) : (pack (headD kind n ++ E)).getD 0 0 = kind.toNat := by
  have hl : 0 < ((headD kind n ++ E).length + 7) / 8 := by simp; omega
  rw [List.getD, pack_get _ 0 hl]
  simp only [Option.getD_some]
  have hu := unpack_pack (headD kind n ++ E)
  have hx := byteAt_lt (headD kind n ++ E) 0
  obtain ⟨b, hb⟩ : ∃ b, b = byteAt (headD kind n ++ E) 0 := ⟨_, rfl⟩
  rw [← hb] at hx ⊢
  have e1 : (unpack (pack (headD kind n ++ E))).take 8 = dig (b : Int) 8 := by
    have e2 : pack (headD kind n ++ E) = b :: (pack (headD kind n ++ E)).tail := by
      have h2 := pack_get (headD kind n ++ E) 0 hl
      cases hp : pack (headD kind n ++ E) with
      | nil => rw [hp] at h2; simp at h2
      | cons y ys => rw [hp] at h2; simp at h2; rw [hb, h2]; rfl
    rw [e2, unpack_cons, ← dig8, List.take_left' (by simp)]
  have e3 : (unpack (pack (headD kind n ++ E))).take 8 = dig kind 8 := by
    rw [hu]
    unfold headD
    simp only [List.append_assoc]
    rw [List.take_left' (by simp)]
  have h4 := num_dig (b : Int) 8
  have h5 := num_dig kind 8
  rw [← e1, e3, h5] at h4
  omega
theorem kindOut_pack {kind : Int} {x : List Int} {s : Nat} {D : List Bool} (h : frm kind x s = some D) : kindOut (pack D) = kind := by
  have h1 := decD_pack h []
  rw [List.append_nil, if_pos (by rfl)] at h1
  obtain ⟨-, -, h2, h3, E, rfl⟩ := frm_ne h
  unfold kindOut
  rw [h1]
  simp only
  rw [pack_first h2 h3]
  omega

theorem takeD_ext {ds : List Bool} {n : Nat} {q : Nat × List Bool} (h : takeD ds n = some q) (t : List Bool) : takeD (ds ++ t) n = some (q.1, q.2 ++ t) := by
  unfold takeD at h ⊢
  split at h
  · rename_i hl
    cases h
    rw [if_pos (by simp; omega), List.take_append_of_le_length hl, List.drop_append_of_le_length hl]
  · cases h
theorem sampsT_ext : ∀ (n : Nat) (ds : List Bool) (q : List Int × List Bool), sampsT n ds = some q → ∀ t, sampsT n (ds ++ t) = some (q.1, q.2 ++ t) := by
  intro n
  induction n with
  | zero => intro ds q h t; simp [sampsT] at h ⊢; subst h; exact ⟨rfl, rfl⟩
  | succ n ih =>
    intro ds q h t
    rw [sampsT] at h ⊢
    obtain ⟨r, h1, h2⟩ := Option.bind_eq_some_iff.1 h
    obtain ⟨q', h3, rfl⟩ := Option.map_eq_some_iff.1 h2
    rw [takeD_ext h1 t]
    simp only [Option.bind_some]
    rw [ih _ _ h3 t]
    rfl
theorem coefsT_ext : ∀ (n : Nat) (ds : List Bool) (q : List Int × List Bool), coefsT n ds = some q → ∀ t, coefsT n (ds ++ t) = some (q.1, q.2 ++ t) := by
  intro n
  induction n with
  | zero => intro ds q h t; simp [coefsT] at h ⊢; subst h; exact ⟨rfl, rfl⟩
  | succ n ih =>
    intro ds q h t
    rw [coefsT] at h ⊢
    obtain ⟨r, h1, h2⟩ := Option.bind_eq_some_iff.1 h
    obtain ⟨q', h3, rfl⟩ := Option.map_eq_some_iff.1 h2
    rw [takeD_ext h1 t]
    simp only [Option.bind_some]
    rw [ih _ _ h3 t]
    rfl
theorem getOut_ext {ds : List Bool} {n : Int} (h : (getOut ds n).2.2 = true) (t : List Bool) : getOut (ds ++ t) n = getOut ds n ∧ (getOut ds n).2.1 ≤ ds.length := by
  unfold getOut at h ⊢
  by_cases hc : 0 ≤ n ∧ n ≤ 62 ∧ n ≤ ds.length
  · rw [if_pos hc, if_pos ⟨hc.1, hc.2.1, by simp; omega⟩, List.take_append_of_le_length (by omega)]
    exact ⟨rfl, by simp; omega⟩
  · rw [if_neg hc] at h; cases h
theorem lead_ext (t : List Bool) : ∀ (ds : List Bool) (m : Nat), (lead ds m = m ∨ lead ds m < ds.length) → lead (ds ++ t) m = lead ds m := by
  intro ds
  induction ds with
  | nil =>
    intro m h
    cases m with
    | zero => cases t <;> rfl
    | succ m => rcases h with h | h <;> simp [lead] at h
  | cons d ds ih =>
    intro m h
    cases m with
    | zero => rfl
    | succ m =>
      cases d with
      | false => rfl
      | true =>
        simp only [List.cons_append, lead] at h ⊢
        rw [ih m (by simp at h; omega)]
theorem onesOut_ext {ds : List Bool} {n : Int} (h : (onesOut ds n).2.2 = true) (t : List Bool) : onesOut (ds ++ t) n = onesOut ds n ∧ (onesOut ds n).2.1 ≤ ds.length := by
  unfold onesOut at h ⊢
  by_cases hc : 0 ≤ n ∧ n ≤ 1024
  · rw [if_pos hc] at h
    rw [if_pos hc, if_pos hc]
    have hle := lead_le_length ds n.toNat
    by_cases h1 : lead ds n.toNat = n.toNat
    · rw [lead_ext t ds _ (.inl h1), if_pos h1, if_pos h1]
      exact ⟨rfl, by simp; omega⟩
    · rw [if_neg h1] at h
      by_cases h2 : lead ds n.toNat = ds.length
      · rw [if_pos h2] at h; cases h
      · rw [lead_ext t ds _ (.inr (by omega)), if_neg h1, if_neg h1, if_neg h2, if_neg (by simp; omega)]
        exact ⟨rfl, by simp; omega⟩
  · rw [if_neg hc] at h; cases h
theorem riceOut_ext {ds : List Bool} {k : Int} (h : (riceOut ds k).2.2 = true) (t : List Bool) : riceOut (ds ++ t) k = riceOut ds k ∧ (riceOut ds k).2.1 ≤ ds.length := by
  unfold riceOut at h ⊢
  by_cases hp : isPar k = true
  case neg => rw [if_neg hp] at h; cases h
  rw [if_pos hp] at h
  rw [if_pos hp, if_pos hp]
  by_cases ho : (onesOut ds 24).2.2 = true
  case neg => rw [if_neg ho] at h; cases h
  obtain ⟨e1, e2⟩ := onesOut_ext ho t
  rw [if_pos ho] at h
  rw [e1, if_pos ho, if_pos ho]
  have hk := isPar_true hp
  rcases onesOut_cases ds with hc | hc | ⟨c, hc24, hc⟩
  · rw [hc] at ho; cases ho
  · rw [hc] at h e2 ⊢
    simp only [if_true] at h e2 ⊢
    by_cases hg : (getOut (ds.drop 24) 32).2.2 = true ∧ 24 ≤ (getOut (ds.drop 24) 32).1 / 2 ^ k.toNat
    · obtain ⟨f1, f2⟩ := getOut_ext hg.1 t
      have f3 : (getOut (ds.drop 24) 32).2.1 = 32 := by
        rcases getOut_cases (ds.drop 24) 32 with h1 | ⟨v, -, -, h1⟩
        · have h2 := hg.1
          rw [show getOut (ds.drop 24) 32 = (0, 0, false) from h1] at h2; cases h2
        · rw [show getOut (ds.drop 24) 32 = (v, 32, true) from h1]
      rw [List.drop_append_of_le_length e2, f1, if_pos hg]
      rw [f3] at f2
      simp at f2
      exact ⟨rfl, by simp; omega⟩
    · rw [if_neg hg] at h; cases h
  · rw [hc] at h e2 ⊢
    have hne : ¬ c = 24 := by omega
    simp only [if_neg hne] at h e2 ⊢
    by_cases hg : (getOut (ds.drop (c + 1)) k).2.2 = true
    · obtain ⟨f1, f2⟩ := getOut_ext hg t
      have f3 : (getOut (ds.drop (c + 1)) k).2.1 = k.toNat := by
        have ek : k = ((k.toNat : Nat) : Int) := by omega
        rcases getOut_cases (ds.drop (c + 1)) k.toNat with h1 | ⟨v, -, -, h1⟩
        · rw [← ek] at h1; rw [h1] at hg; cases hg
        · rw [← ek] at h1; rw [h1]
      rw [List.drop_append_of_le_length e2, f1, if_pos hg]
      rw [f3] at f2
      simp at f2
      exact ⟨rfl, by simp; omega⟩
    · rw [if_neg hg] at h; cases h
theorem ricesT_ext (k : Nat) : ∀ (n : Nat) (ds : List Bool) (q : List Int × List Bool), ricesT k n ds = some q → ∀ t, ricesT k n (ds ++ t) = some (q.1, q.2 ++ t) := by
  intro n
  induction n with
  | zero => intro ds q h t; simp [ricesT] at h ⊢; subst h; exact ⟨rfl, rfl⟩
  | succ n ih =>
    intro ds q h t
    rw [ricesT] at h ⊢
    split at h
    · rename_i ho
      obtain ⟨q', h3, rfl⟩ := Option.map_eq_some_iff.1 h
      obtain ⟨e1, e2⟩ := riceOut_ext ho t
      rw [e1, if_pos ho, List.drop_append_of_le_length e2, ih _ _ h3 t]
      rfl
    · cases h
theorem resT_ext {n : Nat} {ds : List Bool} {q : List Int × List Bool} (h : resT n ds = some q) (t : List Bool) : resT n (ds ++ t) = some (q.1, q.2 ++ t) := by
  unfold resT at h ⊢
  obtain ⟨r, h1, h2⟩ := Option.bind_eq_some_iff.1 h
  rw [takeD_ext h1 t]
  simp only [Option.bind_some]
  split at h2
  · cases h2
  · rename_i hk
    rw [if_neg hk]
    exact ricesT_ext _ _ _ _ h2 t
theorem bodyT_ext {K n : Nat} {x : List Int} {ds : List Bool} {q : List Int × List Bool} (h : bodyT K n x ds = some q) (t : List Bool) : bodyT K n x (ds ++ t) = some (q.1, q.2 ++ t) := by
  unfold bodyT at h ⊢
  by_cases h0 : K = 0
  · rw [if_pos h0] at h ⊢; cases h; rfl
  rw [if_neg h0] at h ⊢
  by_cases h1 : K = 1
  · rw [if_pos h1] at h ⊢; cases h; rfl
  rw [if_neg h1] at h ⊢
  by_cases h6 : K ≤ 6
  · rw [if_pos h6] at h ⊢
    obtain ⟨r, g1, g2⟩ := Option.bind_eq_some_iff.1 h
    rw [resT_ext g1 t]
    simp only [Option.bind_some]
    split at g2
    · rename_i hz; rw [if_pos hz]; cases g2; rfl
    · cases g2
  · rw [if_neg h6] at h ⊢
    obtain ⟨c, g0, g⟩ := Option.bind_eq_some_iff.1 h
    obtain ⟨r, g1, g2⟩ := Option.bind_eq_some_iff.1 g
    rw [coefsT_ext _ _ _ g0 t]
    simp only [Option.bind_some]
    rw [resT_ext g1 t]
    simp only [Option.bind_some]
    split at g2
    · rename_i hz; rw [if_pos hz]; cases g2; rfl
    · cases g2
theorem decP_ext {ds : List Bool} {q : List Int × List Bool} (h : decP ds = some q) (t : List Bool) : decP (ds ++ t) = some (q.1, q.2 ++ t) := by
  unfold decP at h ⊢
  obtain ⟨r1, h1, h⟩ := Option.bind_eq_some_iff.1 h
  obtain ⟨r2, h2, h⟩ := Option.bind_eq_some_iff.1 h
  rw [takeD_ext h1 t]
  simp only [Option.bind_some]
  rw [takeD_ext h2 t]
  simp only [Option.bind_some]
  split at h
  · cases h
  · rename_i hg
    rw [if_neg hg]
    obtain ⟨r3, h3, h⟩ := Option.bind_eq_some_iff.1 h
    rw [sampsT_ext _ _ _ h3 t]
    simp only [Option.bind_some]
    exact bodyT_ext h t
/-- A frame that is cut short is none. -/
theorem decD_cut {kind : Int} {x : List Int} {s : Nat} {D E F : List Bool} (h : frm kind x s = some D) (t : List Bool) (e : D ++ t = E ++ F) (hl : E.length < D.length) : decD E = none := by
  cases hE : decP E with
  | none => rw [decD_P, hE]; rfl
  | some q =>
    have h1 := decP_ext hE F
    rw [← e, decP_tail h t] at h1
    cases h1
    have h2 := congrArg List.length e
    simp at h2
    omega
theorem decD_short8 {kind : Int} {x : List Int} {s : Nat} {D : List Bool} (h : frm kind x s = some D) : decD (unpack ((pack D).take ((pack D).length - 1))) = none := by
  have hD := (frm_ne h).1
  refine decD_cut (t := List.replicate ((8 - D.length % 8) % 8) false) (F := unpack ((pack D).drop ((pack D).length - 1))) h ?_ (by simp; omega)
  rw [← unpack_pack, ← unpack_append, List.take_append_drop]

end Go.Proofs.Ythkfaackkcdcoaa

/- How long frames are: small numbers, samples that are all alike, lines; no program. -/
namespace Go.Proofs.Ythkfaackkcdcoaa
set_option linter.unusedVariables false
set_option linter.unusedSimpArgs false
open Go.RowKit Dg

theorem len_residD {l : List Int} (h : okZ l) : ((residD l).length : Int) = 5 + sumSize (zigs l) (parOf l : Int) := by
  have := (length_digs (zigs l) (parOf l) (okZ_num h) (parOf_le l)).1
  unfold residD
  simp only [List.length_append, length_dig]
  omega
theorem best_le (l : List Int) (k : Nat) (hk : k ≤ 24) : sumSize (zigs l) (parOf l : Int) ≤ sumSize (zigs l) (k : Int) := by
  have h1 := bestTo_size (zigs l) 24
  have h2 := (bestTo_least (zigs l) 24 k hk).1
  unfold parOf
  rw [h1] at h2
  exact h2
theorem sumSize_cons (z : Int) (l : List Int) (k : Int) : sumSize (z :: l) k = sizeOf1 z k + sumSize l k := by simp [sumSize]
theorem sumSize_app (l m : List Int) (k : Int) : sumSize (l ++ m) k = sumSize l k + sumSize m k := by
  induction l with
  | nil => simp [sumSize]
  | cons z l ih => rw [List.cons_append, sumSize_cons, sumSize_cons, ih]; omega
theorem sumSize_le {l : List Int} {k M : Int} (h : ∀ z ∈ l, sizeOf1 z k ≤ M) : sumSize l k ≤ M * (l.length : Int) := by
  induction l with
  | nil => simp [sumSize]
  | cons z l ih =>
    have h1 := h z (by simp)
    have h2 := ih (fun y hy => h y (by simp [hy]))
    rw [sumSize_cons, List.length_cons]
    have e : M * ((l.length + 1 : Nat) : Int) = M * (l.length : Int) + M := by rw [show ((l.length + 1 : Nat) : Int) = (l.length : Int) + 1 by omega, Int.mul_add, Int.mul_one]
    omega
theorem sizeOf1_at {z : Int} {k : Nat} (hz : isNum z = true) (hk : k ≤ 24) : sizeOf1 z (k : Int) = sizeIn z k := by
  unfold sizeOf1
  rw [if_pos ⟨hz, by simp [isPar]; omega⟩, Int.toNat_natCast]
theorem sizeIn_ge {z : Int} (hz : 0 ≤ z) {k : Nat} (hk : k ≤ 24) : 1 + (k : Int) ≤ sizeIn z k := by
  have := quot_le z k hz
  unfold sizeIn
  split <;> omega
theorem sumSize_ge {l : List Int} {k : Nat} (h : ∀ z ∈ l, isNum z = true) (hk : k ≤ 24) : (l.length : Int) ≤ sumSize l (k : Int) := by
  induction l with
  | nil => simp [sumSize]
  | cons z l ih =>
    have h1 := h z (by simp)
    have h2 := ih (fun y hy => h y (by simp [hy]))
    have h3 := sizeIn_ge (isNum_true h1).1 hk
    rw [sumSize_cons, List.length_cons, sizeOf1_at h1 hk]
    omega
theorem residZ_zero (x : List Int) : residZ x 0 = x := by
  unfold residZ
  refine List.ext_getElem? (fun i => ?_)
  by_cases hi : i < x.length
  · rw [List.getElem?_map, List.getElem?_range (by omega)]
    have e : guessZ (x.take (0 + i)) (coefs ((0 : Nat) : Int)) = 0 := rfl
    simp only [Option.map_some]
    rw [e, Nat.zero_add, Int.sub_zero]
    simp [List.getD, hi]
  · rw [List.getElem?_eq_none (by simp; omega), List.getElem?_eq_none (by omega)]
/-- The frame of order 0. -/
theorem frm_two {x : List Int} (h : mayX x) (hz : okZ x) (s : Nat) : frm 2 x s = some (headD 2 x.length ++ [] ++ residD x) := by
  unfold frm
  rw [if_neg (by simp [h]), if_neg (by decide), if_neg (by decide), if_pos (by decide)]
  have e : ((2 : Int) - 2).toNat = 0 := rfl
  rw [e, residZ_zero, if_neg (by omega), if_pos hz]
  rfl
theorem best_small {x : List Int} (h : mayX x) (hs : ∀ v ∈ x, 0 ≤ v ∧ v ≤ 15) (s : Nat) : (bestF x s 19).length ≤ 21 + 6 * x.length := by
  have hzz : ∀ v ∈ x, zigOf v = 2 * v := fun v hv => by
    have := hs v hv
    unfold zigOf
    rw [if_neg (by omega), if_neg (by omega)]
  have hok : okZ x := by
    intro z hz
    obtain ⟨v, hv, rfl⟩ := List.mem_map.1 hz
    rw [hzz v hv]
    have := hs v hv
    omega
  obtain ⟨i, -, -, h3⟩ := bestF_any h s
  have h4 := (h3 2 _ (by decide) (frm_two h hok s)).1
  have h5 := len_residD hok
  have h6 := best_le x 4 (by decide)
  have h7 : sumSize (zigs x) ((4 : Nat) : Int) ≤ 6 * ((zigs x).length : Int) := by
    refine sumSize_le (fun z hz => ?_)
    rw [sizeOf1_at (okZ_num hok z hz) (by decide)]
    obtain ⟨v, hv, rfl⟩ := List.mem_map.1 hz
    rw [hzz v hv]
    have := hs v hv
    unfold sizeIn
    split
    · omega
    · omega
  rw [length_zigs] at h7
  simp at h4
  omega
theorem okZ_len {l : List Int} (h : okZ l) : 5 + l.length ≤ (residD l).length := by
  have h1 := len_residD h
  have h2 := sumSize_ge (okZ_num h) (parOf_le l)
  rw [length_zigs] at h2
  omega
/-- Every frame that is no constant has more digits than one, where there are 20 samples and more. -/
theorem frm_long {k : Nat} {x : List Int} {s : Nat} {D : List Bool} (h : frm (k : Int) x s = some D) (hk : k ≠ 0) (hx : 20 ≤ x.length) : 41 ≤ D.length := by
  unfold frm at h
  by_cases hb : ¬ mayX x ∨ (k : Int) < 0 ∨ 18 < (k : Int)
  · rw [if_pos hb] at h; cases h
  rw [if_neg hb, if_neg (by omega)] at h
  by_cases h1 : (k : Int) = 1
  · rw [if_pos h1] at h; cases h; simp; omega
  rw [if_neg h1] at h
  by_cases h6 : (k : Int) ≤ 6
  · rw [if_pos h6] at h
    by_cases hl : (x.length : Int) < (k : Int) - 2
    · rw [if_pos hl] at h; cases h
    rw [if_neg hl] at h
    by_cases hz : okZ (residZ x ((k : Int) - 2).toNat)
    · rw [if_pos hz] at h
      cases h
      have := okZ_len hz
      simp at this ⊢
      omega
    · rw [if_neg hz] at h; cases h
  rw [if_neg h6] at h
  obtain ⟨⟨c, b⟩, hc⟩ : ∃ R, R = coOut x ((k : Int) - 6) s := ⟨_, rfl⟩
  rw [← hc] at h
  simp only at h
  cases b with
  | false => simp at h
  | true =>
    rw [if_pos rfl] at h
    obtain ⟨g1, g2, g3, g4, g5⟩ := coOut_true hc.symm
    by_cases hz : okZ (lresidZ x c)
    · rw [if_pos hz] at h
      cases h
      have := okZ_len hz
      simp at this ⊢
      omega
    · rw [if_neg hz] at h; cases h
theorem best_const {x : List Int} (h : mayX x) (hall : allOne x) (hx : 20 ≤ x.length) (s : Nat) : frm 0 x s = some (bestF x s 19) ∧ (bestF x s 19).length = 40 := by
  have h0 : frm 0 x s = some (headD 0 x.length ++ sampD (x.getD 0 0)) := by
    unfold frm
    rw [if_neg (by simp [h]), if_pos rfl, if_pos hall]
  obtain ⟨i, h1, h2, h3⟩ := bestF_any h s
  have h4 := (h3 0 _ (by decide) h0).1
  simp at h4
  by_cases hi : i = 0
  · subst hi
    have h5 : frm 0 x s = some (bestF x s 19) := h2
    rw [h0] at h5
    refine ⟨h2, ?_⟩
    have h6 := Option.some.inj h5
    rw [← h6]
    simp
  · have := frm_long h2 hi hx
    omega
/-- Two numbers that lie ten apart have no few digits. -/
theorem pair_ge {a b : Int} (ha : isNum (zigOf a) = true) (hb : isNum (zigOf b) = true) (hs1 : -2000000 ≤ a ∧ a ≤ 2000000) (hs2 : -2000000 ≤ b ∧ b ≤ 2000000) (h : a + 10 ≤ b) {k : Nat} (hk : k ≤ 24) : 8 ≤ sizeOf1 (zigOf a) (k : Int) + sizeOf1 (zigOf b) (k : Int) := by
  rw [sizeOf1_at ha hk, sizeOf1_at hb hk]
  have h1 := sizeIn_ge (isNum_true ha).1 hk
  have h2 := sizeIn_ge (isNum_true hb).1 hk
  by_cases h3 : 3 ≤ k
  · omega
  · have ez : 18 ≤ zigOf a + zigOf b := by
      have za : zigOf a = if a < 0 then -2 * a - 1 else 2 * a := by unfold zigOf; rw [if_neg (by omega)]
      have zb : zigOf b = if b < 0 then -2 * b - 1 else 2 * b := by unfold zigOf; rw [if_neg (by omega)]
      rw [za, zb]
      split <;> split <;> omega
    have hz1 := (isNum_true ha).1
    have hz2 := (isNum_true hb).1
    unfold sizeIn
    rcases (by omega : k = 0 ∨ k = 1 ∨ k = 2) with rfl | rfl | rfl
    · split <;> split <;> omega
    · split <;> split <;> omega
    · split <;> split <;> omega
theorem pairs_ge (A B : List Int) (k : Nat) (hl : A.length = B.length) (h : ∀ (i : Nat) (a b : Int), A[i]? = some a → B[i]? = some b → 8 ≤ sizeOf1 a (k : Int) + sizeOf1 b (k : Int)) : 8 * (A.length : Int) ≤ sumSize A (k : Int) + sumSize B (k : Int) := by
  induction A generalizing B with
  | nil => cases B with
    | nil => simp [sumSize]
    | cons b B => simp at hl
  | cons a A ih => cases B with
    | nil => simp at hl
    | cons b B =>
      have h1 := h 0 a b rfl rfl
      have h2 := ih B (by simpa using hl) (fun i x y hx hy => h (i + 1) x y (by simpa using hx) (by simpa using hy))
      rw [sumSize_cons, sumSize_cons, List.length_cons]
      omega
/-- A line. -/
structure Line (x : List Int) (v st : Int) : Prop where
  len1 : 20 ≤ x.length
  len2 : x.length ≤ 64
  at_ : ∀ i : Nat, i < x.length → x[i]? = some (v + st * (i : Int))
  v1 : -524288 ≤ v
  v2 : v ≤ 524288
  st1 : 1 ≤ st
  st2 : st ≤ 1000
theorem Line.small {x : List Int} {v st : Int} (h : Line x v st) {y : Int} (hy : y ∈ x) : -2000000 ≤ y ∧ y ≤ 2000000 := by
  obtain ⟨i, hi, e⟩ := List.getElem_of_mem hy
  have h1 := h.at_ i hi
  rw [List.getElem?_eq_getElem hi, e] at h1
  cases h1
  have h2 : 0 ≤ st * (i : Int) := Int.mul_nonneg (by have := h.st1; omega) (by omega)
  have h3 : st * (i : Int) ≤ 1000 * (i : Int) := Int.mul_le_mul_of_nonneg_right h.st2 (by omega)
  have := h.v1
  have := h.v2
  have := h.len2
  omega
theorem Line.may {x : List Int} {v st : Int} (h : Line x v st) : mayX x := ⟨by have := h.len1; omega, h.len2, fun y hy => by have := h.small hy; unfold isS; omega⟩
theorem Line.get {x : List Int} {v st : Int} (h : Line x v st) {i : Nat} (hi : i < x.length) : at0 x i = v + st * (i : Int) := getD_of (h.at_ i hi)
theorem Line.resid {x : List Int} {v st : Int} (h : Line x v st) : residZ x 2 = List.replicate (x.length - 2) 0 := by
  refine List.eq_replicate_iff.2 ⟨by simp, fun y hy => ?_⟩
  obtain ⟨j, hj, e⟩ := List.getElem_of_mem hy
  have hj' : 2 + j < x.length := by simp at hj; omega
  have h1 := residZ_at x 2 j (by decide) hj'
  rw [List.getElem?_eq_getElem hj, e] at h1
  have h2 := Option.some.inj h1
  rw [h2]
  have e2 : tell 2 (at0 x) (2 + j) = 2 * at0 x (1 + j) - at0 x j := by
    show 2 * at0 x (2 + j - 1) - at0 x (2 + j - 2) = _
    rw [show 2 + j - 1 = 1 + j by omega, show 2 + j - 2 = j by omega]
  rw [e2, h.get hj', h.get (by omega), h.get (by omega)]
  have b1 : ((2 + j : Nat) : Int) = (j : Int) + 2 := by omega
  have b2 : ((1 + j : Nat) : Int) = (j : Int) + 1 := by omega
  rw [b1, b2]
  grind
theorem zeros_ok (m : Nat) : okZ (List.replicate m 0) := by
  intro z hz
  obtain ⟨v, hv, rfl⟩ := List.mem_map.1 hz
  have := List.eq_of_mem_replicate hv
  subst this
  decide
theorem zeros_sum (m : Nat) : sumSize (zigs (List.replicate m 0)) ((0 : Nat) : Int) = (m : Int) := by
  induction m with
  | zero => rfl
  | succ m ih =>
    have e : zigs (List.replicate (m + 1) 0) = 0 :: zigs (List.replicate m 0) := rfl
    rw [e, sumSize_cons, ih]
    have : sizeOf1 0 ((0 : Nat) : Int) = 1 := by decide
    omega
theorem Line.four {x : List Int} {v st : Int} (h : Line x v st) (s : Nat) : ∃ D, frm 4 x s = some D ∧ D.length ≤ 67 + x.length := by
  have hz := zeros_ok (x.length - 2)
  have h1 := h.len1
  refine ⟨headD 4 x.length ++ sampsD (x.take 2) ++ residD (List.replicate (x.length - 2) 0), ?_, ?_⟩
  · unfold frm
    rw [if_neg (by simp [h.may]), if_neg (by decide), if_neg (by decide), if_pos (by decide)]
    have e : ((4 : Int) - 2).toNat = 2 := rfl
    rw [e, h.resid, if_neg (by omega), if_pos hz]
  · have h2 := len_residD hz
    have h3 := best_le (List.replicate (x.length - 2) 0) 0 (by decide)
    rw [zeros_sum] at h3
    simp
    omega
theorem Line.zig_num {x : List Int} {v st : Int} (h : Line x v st) : okZ x := by
  intro z hz
  obtain ⟨y, hy, rfl⟩ := List.mem_map.1 hz
  have := h.small hy
  unfold zigOf
  rw [if_neg (by omega)]
  split <;> omega
theorem Line.sum {x : List Int} {v st : Int} (h : Line x v st) {k : Nat} (hk : k ≤ 24) : 60 + (x.length : Int) ≤ sumSize (zigs x) (k : Int) := by
  have hl := h.len1
  have e : zigs x = zigs (x.take 10) ++ (zigs ((x.drop 10).take 10) ++ zigs (x.drop 20)) := by
    unfold zigs
    rw [← List.map_append, ← List.map_append]
    congr 1
    have e1 : x.drop 20 = (x.drop 10).drop 10 := by rw [List.drop_drop]
    rw [e1, List.take_append_drop, List.take_append_drop]
  have hn := okZ_num h.zig_num
  have h1 : 8 * ((zigs (x.take 10)).length : Int) ≤ sumSize (zigs (x.take 10)) (k : Int) + sumSize (zigs ((x.drop 10).take 10)) (k : Int) := by
    refine pairs_ge _ _ k (by simp; omega) (fun i a b ha hb => ?_)
    unfold zigs at ha hb
    rw [List.getElem?_map] at ha hb
    obtain ⟨p, hp, rfl⟩ := Option.map_eq_some_iff.1 ha
    obtain ⟨q, hq, rfl⟩ := Option.map_eq_some_iff.1 hb
    have hi : i < 10 := by have := (List.getElem?_eq_some_iff.1 hp).1; simp at this; omega
    rw [List.getElem?_take, if_pos hi] at hp hq
    rw [List.getElem?_drop] at hq
    have gp := h.at_ i (by omega)
    have gq := h.at_ (10 + i) (by omega)
    rw [hp] at gp
    rw [hq] at gq
    have mp := List.mem_of_getElem? hp
    have mq := List.mem_of_getElem? hq
    refine pair_ge (hn _ (List.mem_map.2 ⟨p, mp, rfl⟩)) (hn _ (List.mem_map.2 ⟨q, mq, rfl⟩)) (h.small mp) (h.small mq) ?_ hk
    cases gp
    cases gq
    have e3 : st * ((10 + i : Nat) : Int) = st * 10 + st * (i : Int) := by rw [show ((10 + i : Nat) : Int) = 10 + (i : Int) by omega, Int.mul_add]
    have := h.st1
    rw [e3]
    omega
  have h2 : ((zigs (x.drop 20)).length : Int) ≤ sumSize (zigs (x.drop 20)) (k : Int) := by
    refine sumSize_ge (fun z hz => hn z ?_) hk
    rw [e]
    simp [hz]
  rw [e, sumSize_app, sumSize_app]
  simp at h1 h2
  omega
/-- The shortest frame of a line has a predictor. -/
theorem Line.best {x : List Int} {v st : Int} (h : Line x v st) (s : Nat) : ∃ i : Nat, 3 ≤ i ∧ i < 19 ∧ frm (i : Int) x s = some (bestF x s 19) ∧ ∃ D, frm 4 x s = some D ∧ (bestF x s 19).length ≤ D.length := by
  obtain ⟨D, hD, hDl⟩ := h.four s
  obtain ⟨i, h1, h2, h3⟩ := bestF_any h.may s
  have h4 := (h3 4 D (by decide) hD).1
  have hl := h.len1
  refine ⟨i, ?_, h1, h2, D, hD, h4⟩
  rcases (by omega : i = 0 ∨ i = 1 ∨ i = 2 ∨ 3 ≤ i) with rfl | rfl | rfl | hi
  · exfalso
    have h5 : frm 0 x s = some (bestF x s 19) := h2
    unfold frm at h5
    rw [if_neg (by simp [h.may]), if_pos rfl] at h5
    by_cases ha : allOne x
    · have g0 := h.at_ 0 (by omega)
      have g1 := h.at_ 1 (by omega)
      have a1 := ha _ (List.mem_of_getElem? g1)
      rw [getD_of g0] at a1
      have := h.st1
      simp at a1
      omega
    · rw [if_neg ha] at h5; cases h5
  · exfalso
    have h5 : frm 1 x s = some (bestF x s 19) := h2
    rw [frm_verb h.may] at h5
    have h6 := Option.some.inj h5
    rw [← h6] at h4
    simp at h4
    omega
  · exfalso
    have h5 : frm 2 x s = some (bestF x s 19) := h2
    rw [frm_two h.may h.zig_num] at h5
    have h6 := Option.some.inj h5
    rw [← h6] at h4
    have h7 := len_residD h.zig_num
    have h8 := h.sum (parOf_le x)
    simp at h4
    omega
  · exact hi

end Go.Proofs.Ythkfaackkcdcoaa

/- The document's example of law08. -/
namespace Go.Proofs.Ythkfaackkcdcoaa
set_option linter.unusedVariables false
set_option linter.unusedSimpArgs false
open Go.RowKit Dg

theorem shift_may (l : List Int) : ∃ s, mayX l → IsShift (autoZ l 0) s := by
  by_cases h : mayX l
  · have := autoZ_small h.2.2 h.2.1 0
    obtain ⟨s, -, hs⟩ := shift_exists (autoZ_zero l) (by omega)
    exact ⟨s, fun _ => hs⟩
  · exact ⟨0, fun h' => absurd h' h⟩
theorem encOut_may {x : List Int} (h : mayX x) (s : Nat) : encOut x s = (pack (bestF x s 19), 0) := by
  unfold encOut
  rw [if_neg (by have := h.1; have := h.2.1; omega), if_pos h.2.2]
/-- Every frame but a constant, verbatim and order 0 has at least 45 digits. -/
theorem frm_min {k : Nat} {x : List Int} {s : Nat} {D : List Bool} (h : frm (k : Int) x s = some D) (hk : 3 ≤ k) : 45 ≤ D.length := by
  unfold frm at h
  by_cases hb : ¬ mayX x ∨ (k : Int) < 0 ∨ 18 < (k : Int)
  · rw [if_pos hb] at h; cases h
  rw [if_neg hb, if_neg (by omega), if_neg (by omega)] at h
  by_cases h6 : (k : Int) ≤ 6
  · rw [if_pos h6] at h
    by_cases hl : (x.length : Int) < (k : Int) - 2
    · rw [if_pos hl] at h; cases h
    rw [if_neg hl] at h
    by_cases hz : okZ (residZ x ((k : Int) - 2).toNat)
    · rw [if_pos hz] at h
      cases h
      have := okZ_len hz
      simp at this ⊢
      omega
    · rw [if_neg hz] at h; cases h
  rw [if_neg h6] at h
  obtain ⟨⟨c, b⟩, hc⟩ : ∃ R, R = coOut x ((k : Int) - 6) s := ⟨_, rfl⟩
  rw [← hc] at h
  simp only at h
  cases b with
  | false => simp at h
  | true =>
    rw [if_pos rfl] at h
    obtain ⟨g1, g2, g3, g4, g5⟩ := coOut_true hc.symm
    by_cases hz : okZ (lresidZ x c)
    · rw [if_pos hz] at h
      cases h
      have := okZ_len hz
      simp at this ⊢
      omega
    · rw [if_neg hz] at h; cases h
theorem wake_best (s : Nat) : frm 2 [7, 7, 7] s = some (bestF [7, 7, 7] s 19) ∧ (bestF [7, 7, 7] s 19).length = 36 := by
  have hm : mayX [7, 7, 7] := by decide
  have hz : okZ [7, 7, 7] := by decide
  have e2 := frm_two hm hz s
  have e0 : frm 0 [7, 7, 7] s = some (headD 0 3 ++ sampD 7) := by
    unfold frm
    rw [if_neg (by simp [hm]), if_pos rfl, if_pos (by decide)]
    rfl
  have hl : (residD [7, 7, 7]).length = 20 := by decide +kernel
  obtain ⟨i, h1, h2, h3⟩ := bestF_any hm s
  have h4 := (h3 2 _ (by decide) e2).1
  simp [hl] at h4
  rcases (by omega : i = 0 ∨ i = 1 ∨ i = 2 ∨ 3 ≤ i) with rfl | rfl | rfl | hi
  · exfalso
    have h5 : frm 0 [7, 7, 7] s = some (bestF [7, 7, 7] s 19) := h2
    rw [e0] at h5
    have h6 := Option.some.inj h5
    rw [← h6] at h4
    simp at h4
  · exfalso
    have h5 : frm 1 [7, 7, 7] s = some (bestF [7, 7, 7] s 19) := h2
    rw [frm_verb hm] at h5
    have h6 := Option.some.inj h5
    rw [← h6] at h4
    simp at h4
  · refine ⟨h2, ?_⟩
    have h5 : frm 2 [7, 7, 7] s = some (bestF [7, 7, 7] s 19) := h2
    rw [e2] at h5
    have h6 := Option.some.inj h5
    rw [← h6]
    simp [hl]
  · have := frm_min h2 hi
    omega

set_option maxHeartbeats 1000000 in
theorem wakes8_any (w : World) : Calls Try.prog 15 #[] w fun e w' => e = .returned (.bool true) ∧ Below w.heap.size w w' := by
  obtain ⟨s, hs⟩ := shift_may [7, 7, 7]
  have HS := hid_of hs
  obtain ⟨P, hP⟩ : ∃ P, P = pack (bestF [7, 7, 7] s 19) := ⟨_, rfl⟩
  have HR : Hid ((P, 0) = encOut [7, 7, 7] s) := by show _ = _; rw [encOut_may (by decide), hP]
  have HPL : Hid (P.length = 5) := by show _ = _; rw [hP, length_pack, (wake_best s).2]
  have HK : Hid (2 = kindOut P) := by show _ = _; rw [hP, kindOut_pack (wake_best s).1]
  have HP256 : Hid (∀ x ∈ P, x < 256) := by rw [hP]; exact pack_lt _
  clear hs hP
  go_enter Try.func15, Try.ntmps15
  go_wp2_with fail
  have HA : Hid (Ns (w.alloc (.cells #[.int .i64 7, .int .i64 7, .int .i64 7] 3)) (some ⟨w.heap.size, 0, none⟩) 3 [7, 7, 7]) := Ns.lit w [7, 7, 7] 3 rfl (by decide) _ rfl
  have HB0 : Hid (Below w.heap.size w (w.alloc (.cells #[.int .i64 7, .int .i64 7, .int .i64 7] 3))) := (Below.refl _ _).alloc (Nat.le_refl _) _
  generalize w.alloc (.cells #[.int .i64 7, .int .i64 7, .int .i64 7] 3) = w1 at *
  have hs1 : w.heap.size ≤ w1.heap.size := HB0.out.size
  refine (fenc_any w1 s _ 3 [7, 7, 7] HA.out (by decide) HS.out _ HR.out).mono ?_
  rintro e w2 ⟨v2, rfl, h2, hb2⟩
  obtain ⟨a2, c2, rfl, hc2⟩ := SlAt.of_owns h2
  have HSL : Hid (SlAt w2 (.slice a2 P.length c2) P) := ⟨a2, c2, rfl, hc2⟩
  have HB2 : Hid (Below w.heap.size w w2) := HB0.out.trans (hb2.mono hs1)
  have hpb : ((P.length : Int) == 5) = true := beq_iff_eq.2 (by rw [HPL.out]; rfl)
  have hp6 : P.length ≤ 1000000 := by rw [HPL.out]; decide
  clear h2 hb2 hc2
  go_wp2_with fail
  refine (fkind_any w2 _ P HSL.out hp6 HP256.out 2 HK.out).mono ?_
  rintro e w3 ⟨rfl, hb3⟩
  have HB3 : Hid (Below w.heap.size w w3) := HB2.out.trans (hb3.mono HB2.out.size)
  clear hb3
  go_wp2
  go_ret
  exact ⟨rfl, HB3.out⟩

end Go.Proofs.Ythkfaackkcdcoaa

/- Samples that go on: law08's Tone. -/
namespace Go.Proofs.Ythkfaackkcdcoaa
set_option linter.unusedVariables false
set_option linter.unusedSimpArgs false
open Go.RowKit Dg

theorem within_quiet8 (v n : Int) (w : World) (k : Nat) (hv1 : -9223372036854775808 ≤ v) (hv2 : v ≤ 9223372036854775807) (hn1 : 1 ≤ n) (hn2 : n ≤ 4611686018427387904) :
    Calls Try.prog 10 #[.int .i64 v, .int .i64 n] (w.drewN k) fun e w'' => e = .returned (.int .i64 (v % n)) ∧ ∃ m, w'' = w.drewN m :=
  (within_any v n (w.drewN k) hv1 hv2 hn1 hn2).mono fun e w'' ⟨h1, h2⟩ => ⟨h1, k, h2.symm⟩
theorem prod_in {b i B I : Int} (h1 : -B ≤ b) (h2 : b ≤ B) (h3 : 0 ≤ i) (h4 : i ≤ I) (hB : 0 ≤ B) : -(B * I) ≤ b * i ∧ b * i ≤ B * I := by
  have a1 : 0 ≤ (b + B) * i := Int.mul_nonneg (by omega) h3
  have a2 : 0 ≤ (B - b) * i := Int.mul_nonneg (by omega) h3
  have a3 : 0 ≤ B * (I - i) := Int.mul_nonneg hB (by omega)
  constructor <;> grind

set_option maxRecDepth 100000 in
set_option maxHeartbeats 8000000 in
theorem tone_any (w : World) (a : Option Addr) (cap : Nat) (l : List Int) (n kind noise : Int) (N : Nat) (h : IntsAt w a l) (hl : l.length ≤ maxLen) (hI : ∀ x ∈ l, I64 x) (hn : I64 n) (hk : I64 kind) (hno : I64 noise) (hN : n % 65 = (N : Int)) :
    Calls Try.prog 9 #[.slice a l.length cap, .int .i64 n, .int .i64 kind, .int .i64 noise] w fun e w' => ∃ v xs, e = .returned v ∧ OwnInts w' w.heap.size v xs ∧ xs.length = N ∧ (∀ x ∈ xs, -300000 ≤ x ∧ x ≤ 300000) ∧ Below w.heap.size w w' := by
  obtain ⟨i0, hi, hz0, hz1, hz2⟩ := info_parts Try.info3
  unfold maxLen at hl
  have H := hid_of h
  have HI := hid_of hI
  have HN := hid_of hN
  obtain ⟨hn1, hn2⟩ := hn
  obtain ⟨hk1, hk2⟩ := hk
  obtain ⟨ho1, ho2⟩ := hno
  have hN64 : N ≤ 64 := by omega
  obtain ⟨z, hz⟩ : ∃ z, noise % 4000 = z := ⟨_, rfl⟩
  have HZ := hid_of hz
  have hzb1 : 0 ≤ z := by omega
  have hzb2 : z < 4000 := by omega
  obtain ⟨q, hq⟩ : ∃ q, kind % 4 = q := ⟨_, rfl⟩
  have HQ := hid_of hq
  have hq4 : q = 0 ∨ q = 1 ∨ q = 2 ∨ q = 3 := by omega
  clear h hI hN hz hq
  go_enter Try.func9, Try.ntmps9
  go_wp2_with fail
  refine (within_any n 65 w hn1 hn2 (by decide) (by decide)).mono ?_
  rw [HN.out]
  rintro e w1 ⟨rfl, rfl⟩
  go_wp2_with fail
  refine (within_any noise 4000 w ho1 ho2 (by decide) (by decide)).mono ?_
  rw [HZ.out]
  rintro e w1 ⟨rfl, rfl⟩
  go_upto_if 21 with fail
  go_cut [9, 10, 11] from 22 to 36 (fun va vb vc wx => ∃ (A B C : Int) (d : Nat), va = .int .i64 A ∧ vb = .int .i64 B ∧ vc = .int .i64 C ∧ -50000 ≤ A ∧ A ≤ 50000 ∧ -1000 ≤ B ∧ B ≤ 1000 ∧ -20 ≤ C ∧ C ≤ 20 ∧ wx = w.drewN d)
  case first =>
    by_cases hlen : 2 < l.length
    · obtain ⟨x0, h0⟩ : ∃ x, l[0]? = some x := ⟨l[0]'(by omega), by simp⟩
      obtain ⟨x1, h1⟩ : ∃ x, l[1]? = some x := ⟨l[1]'(by omega), by simp⟩
      obtain ⟨x2, h2⟩ : ∃ x, l[2]? = some x := ⟨l[2]'(by omega), by simp⟩
      obtain ⟨b, off, rfl, hc0⟩ := H.out 0 x0 h0
      have hc1 : w.cell? ⟨b, off + 1, none⟩ = some (.int .i64 x1) := by
        obtain ⟨b2, o2, e2, hc2⟩ := H.out 1 x1 h1
        cases e2
        exact hc2
      have hc2 : w.cell? ⟨b, off + 2, none⟩ = some (.int .i64 x2) := by
        obtain ⟨b2, o2, e2, hc2⟩ := H.out 2 x2 h2
        cases e2
        exact hc2
      rw [Nat.add_zero] at hc0
      obtain ⟨g01, g02⟩ := HI.out x0 (List.mem_of_getElem? h0)
      obtain ⟨g11, g12⟩ := HI.out x1 (List.mem_of_getElem? h1)
      obtain ⟨g21, g22⟩ := HI.out x2 (List.mem_of_getElem? h2)
      clear h0 h1 h2
      go_wp2_with fail
      go_quiet ((go_at_call 10; refine within_quiet8 _ _ _ _ (by omega) (by omega) (by decide) (by decide)))
      go_wp2_with fail
      go_meet
      exact ⟨x0 % 100000 - 50000, x1 % 2000 - 1000, x2 % 40 - 20, _, rfl, rfl, rfl, by omega, by omega, by omega, by omega, by omega, by omega, rfl⟩
    · go_wp2_with fail
      go_meet
      exact ⟨0, 0, 0, 0, rfl, rfl, rfl, by decide, by decide, by decide, by decide, by decide, by decide, rfl⟩
  case rest =>
    obtain ⟨A, B, C, d, rfl, rfl, rfl, hA1, hA2, hB1, hB2, hC1, hC2, rfl⟩ := hcut
    go_wp2_with fail
    go_loopw [12, 13] (fun v i wr => ∃ (j : Nat) (xs : List Int), j ≤ N ∧ i = .int .i64 (j : Int) ∧ xs.length ≤ 1000000 ∧ Hid (xs.length = j) ∧ Hid (∀ x ∈ xs, -300000 ≤ x ∧ x ≤ 300000) ∧ Hid (OwnInts wr w.heap.size v xs) ∧ Hid (Below w.heap.size w wr)) (fun _ i _ => N - (intOf i).toNat)
    case atStart => exact ⟨0, [], Nat.zero_le _, rfl, by decide, rfl, fun x hx => by simp at hx, OwnInts.nil _ _, below_drewN (Below.refl _ _) d⟩
    case round =>
      obtain ⟨j, xs, hj, rfl, hxl, HXL, hxs, ho, hb⟩ := hrel
      have hsz : w.heap.size ≤ wr.heap.size := hb.out.size
      by_cases hjn : j < N
      · obtain ⟨p, hp⟩ : ∃ p, B * (j : Int) = p := ⟨_, rfl⟩
        have hpb := prod_in (b := B) (i := (j : Int)) (B := 1000) (I := 64) (by omega) (by omega) (by omega) (by omega) (by decide)
        rw [hp] at hpb
        obtain ⟨hp1, hp2⟩ := hpb
        obtain ⟨c1, hc1⟩ : ∃ c1, C * (j : Int) = c1 := ⟨_, rfl⟩
        have hc1b := prod_in (b := C) (i := (j : Int)) (B := 20) (I := 64) (by omega) (by omega) (by omega) (by omega) (by decide)
        rw [hc1] at hc1b
        obtain ⟨hc11, hc12⟩ := hc1b
        obtain ⟨c2, hc2⟩ : ∃ c2, c1 * (j : Int) = c2 := ⟨_, rfl⟩
        have hc2b := prod_in (b := c1) (i := (j : Int)) (B := 1280) (I := 64) (by omega) (by omega) (by omega) (by omega) (by decide)
        rw [hc2] at hc2b
        obtain ⟨hc21, hc22⟩ := hc2b
        obtain ⟨r, hr⟩ : ∃ r, B * ((j : Int) % 7) = r := ⟨_, rfl⟩
        have hrb := prod_in (b := B) (i := (j : Int) % 7) (B := 1000) (I := 6) (by omega) (by omega) (by omega) (by omega) (by decide)
        rw [hr] at hrb
        obtain ⟨hr1, hr2⟩ := hrb
        have HW1 : Hid (wrap64 (B * (j : Int)) = p) := by show _ = _; rw [hp]; exact Go.IntWalk.wrap64_in p (by omega)
        have HW2 : Hid (wrap64 (C * (j : Int)) = c1) := by show _ = _; rw [hc1]; exact Go.IntWalk.wrap64_in c1 (by omega)
        have HW3 : Hid (wrap64 (c1 * (j : Int)) = c2) := by show _ = _; rw [hc2]; exact Go.IntWalk.wrap64_in c2 (by omega)
        have HW4 : Hid (wrap64 (B * ((j : Int) % 7)) = r) := by show _ = _; rw [hr]; exact Go.IntWalk.wrap64_in r (by omega)
        have hend : ∀ (y : Int) (v' : Value) (w' : World), -300000 ≤ y ∧ y ≤ 300000 → Hid (OwnInts w' w.heap.size v' (xs ++ [y])) → Hid (Below w.heap.size wr w') →
            ∃ (j' : Nat) (xs' : List Int), j' ≤ N ∧ Value.int .i64 ((j : Int) + 1) = .int .i64 (j' : Int) ∧ xs'.length ≤ 1000000 ∧ Hid (xs'.length = j') ∧ Hid (∀ x ∈ xs', -300000 ≤ x ∧ x ≤ 300000) ∧ Hid (OwnInts w' w.heap.size v' xs') ∧ Hid (Below w.heap.size w w') := by
          intro y v' w' hy g1 g2
          refine ⟨j + 1, xs ++ [y], by omega, by go_num, by have := HXL.out; simp; omega, by show _ = _; simp [HXL.out], ?_, g1, hb.out.trans g2.out⟩
          intro x hx
          rcases List.mem_append.1 hx with h1 | h1
          · exact hxs.out x h1
          · simp at h1; subst h1; exact hy
        have HEND := hid_of hend
        clear hp hc1 hc2 hr hend
        have hways : (l.length ≤ j) ∨ (j < l.length ∧ z ≤ 0) ∨ (j < l.length ∧ 0 < z) := by omega
        rcases hways with hj1 | ⟨hj1, hj2⟩ | ⟨hj1, hj2⟩
        · rcases hq4 with rfl | rfl | rfl | rfl
          all_goals
            go_wp2_with first
              | (go_at_call_of 10 (Value.int IntKind.i64 kind); refine (within_any kind 4 _ hk1 hk2 (by decide) (by decide)).mono ?_; rw [HQ.out]; rintro e w1 ⟨rfl, rfl⟩)
              | (at_builtin; go_must (refine wpList_append_int _ rfl (.tmp 89) (.tmp 91) 22 rfl w.heap.size i0 Try.underlying22 hi hz0 hz1 hz2 _ xs rfl ho.out _ rfl hxl hsz ?_))
            intro v' w' g1 g2
            go_wp2_with fail
            refine ⟨HEND.out _ v' w' ?_ g1 g2, by (simp [intOf]) <;> omega⟩
            first
              | omega
              | (rw [HW1.out, Go.IntWalk.wrap64_in (A + p) (by omega)]; omega)
              | (rw [HW1.out, HW2.out, HW3.out, Go.IntWalk.wrap64_in (p + c2) (by omega), Go.IntWalk.wrap64_in (A + (p + c2)) (by omega)]; omega)
              | (rw [HW4.out, Go.IntWalk.wrap64_in (A + r) (by omega)]; omega)
        · rcases hq4 with rfl | rfl | rfl | rfl
          all_goals
            go_wp2_with first
              | (go_at_call_of 10 (Value.int IntKind.i64 kind); refine (within_any kind 4 _ hk1 hk2 (by decide) (by decide)).mono ?_; rw [HQ.out]; rintro e w1 ⟨rfl, rfl⟩)
              | (at_builtin; go_must (refine wpList_append_int _ rfl (.tmp 89) (.tmp 91) 22 rfl w.heap.size i0 Try.underlying22 hi hz0 hz1 hz2 _ xs rfl ho.out _ rfl hxl hsz ?_))
            intro v' w' g1 g2
            go_wp2_with fail
            refine ⟨HEND.out _ v' w' ?_ g1 g2, by (simp [intOf]) <;> omega⟩
            first
              | omega
              | (rw [HW1.out, Go.IntWalk.wrap64_in (A + p) (by omega)]; omega)
              | (rw [HW1.out, HW2.out, HW3.out, Go.IntWalk.wrap64_in (p + c2) (by omega), Go.IntWalk.wrap64_in (A + (p + c2)) (by omega)]; omega)
              | (rw [HW4.out, Go.IntWalk.wrap64_in (A + r) (by omega)]; omega)
        · obtain ⟨x, hx⟩ : ∃ x, l[j]? = some x := ⟨l[j], by simp [hj1]⟩
          obtain ⟨b, off, rfl, hc⟩ := H.out.mono hb.out j x hx
          obtain ⟨hx1, hx2⟩ := HI.out x (List.mem_of_getElem? hx)
          obtain ⟨u, hu⟩ : ∃ u, x % z = u := ⟨_, rfl⟩
          have hu1 := Int.emod_nonneg x (show z ≠ 0 by omega)
          have hu2 := Int.emod_lt_of_pos x hj2
          rw [hu] at hu1 hu2
          have HU := hid_of hu
          clear hx hu
          rcases hq4 with rfl | rfl | rfl | rfl
          all_goals
            go_wp2_with first
              | (go_at_call_of 10 (Value.int IntKind.i64 kind); refine (within_any kind 4 _ hk1 hk2 (by decide) (by decide)).mono ?_; rw [HQ.out]; rintro e w1 ⟨rfl, rfl⟩)
              | (go_at_call_of 10 (Value.int IntKind.i64 x); refine (within_any x z _ hx1 hx2 (by omega) (by omega)).mono ?_; rw [HU.out]; rintro e w1 ⟨rfl, rfl⟩)
              | (at_builtin; go_must (refine wpList_append_int _ rfl (.tmp 89) (.tmp 91) 22 rfl w.heap.size i0 Try.underlying22 hi hz0 hz1 hz2 _ xs rfl ho.out _ rfl hxl hsz ?_))
            intro v' w' g1 g2
            go_wp2_with fail
            refine ⟨HEND.out _ v' w' ?_ g1 g2, by (simp [intOf]) <;> omega⟩
            first
              | omega
              | (rw [HW1.out, Go.IntWalk.wrap64_in (A + p) (by omega), Go.IntWalk.wrap64_in (A + p + u) (by omega)]; omega)
              | (rw [HW1.out, HW2.out, HW3.out, Go.IntWalk.wrap64_in (p + c2) (by omega), Go.IntWalk.wrap64_in (A + (p + c2)) (by omega), Go.IntWalk.wrap64_in (A + (p + c2) + u) (by omega)]; omega)
              | (rw [HW4.out, Go.IntWalk.wrap64_in (A + r) (by omega), Go.IntWalk.wrap64_in (A + r + u) (by omega)]; omega)
      · have e : j = N := by omega
        subst e
        go_wp2_with fail
        go_ret
        exact ⟨_, xs, rfl, ho.out, HXL.out, hxs.out, hb.out⟩

end Go.Proofs.Ythkfaackkcdcoaa

/- Noughts behind a row of bytes of the call's own. -/
namespace Go.Proofs.Ythkfaackkcdcoaa
set_option linter.unusedVariables false
set_option linter.unusedSimpArgs false
open Go.RowKit Dg

theorem run_zeros (w : World) (base g n cap m : Nat) (l : List Nat) (h : w.ownsRow base 5 1 (.slice (some ⟨g, 0, none⟩) n cap) n (u8s l)) (hm : n + m ≤ 1000000) (hbase : base ≤ w.heap.size) :
    ∃ g' cap' w', (Builtin.append_ #[26, 3] 26 #[.slice (some ⟨g, 0, none⟩) n cap, .int .i64 m]).run Try.prog w = .ok (.slice (some ⟨g', 0, none⟩) (n + m) cap') w' ∧
      w'.ownsRow base 5 1 (.slice (some ⟨g', 0, none⟩) (n + m) cap') (n + m) (u8s (l ++ List.replicate m 0)) ∧ w.grownBy w' (some g) := by
  obtain ⟨i0, hi, hz0, hz1, hz2⟩ := info_parts Try.info5
  have hln : l.length = n := by have := h.1; simpa using this
  have hw : IntKind.i64.wrap (m : Int) = m := by rw [IntKind.wrap_i64]; omega
  have hneg : ¬ ((m : Int) < 0) := by omega
  have h48i : ¬ (281474976710656 < (m : Int)) := by omega
  rcases h.2 with ⟨e1, _⟩ | ⟨g', cap', cur, hv, hgb, hh, hncap, hcm, hcs, htake⟩
  · cases e1
  · cases hv
    by_cases hroom : n + m ≤ cap
    · have hap : (if m = 0 then (pure #[] : Sem (Array Value)) else pure (Builtin.zeroCells (Value.int .u8 0).cells m)) = pure (u8s (List.replicate m 0)).toArray := by
        by_cases h0 : m = 0
        · subst h0; simp [u8s]
        · rw [if_neg h0, ← zeros_u8]
      have hst := run_storeCells_at Try.prog g n 5 (u8s (List.replicate m 0)) 0 cur w hh (by simp; omega) (fun u hu => by simp [u8s] at hu; obtain ⟨_, rfl⟩ := hu; rfl)
      simp only [Nat.add_zero] at hst
      refine ⟨g, cap, w.setRow g (cur.toList.take n ++ u8s (List.replicate m 0) ++ cur.toList.drop (n + (u8s (List.replicate m 0)).length)).toArray, ?_, ⟨by simp [hln], .inr ⟨g, cap, _, rfl, hgb, setRow_heap w g cur _ 5 _ hh, hroom, hcm, ?_, ?_⟩⟩, ⟨rfl, rfl, rfl, by simp, fun k _ hk => setRow_other w g k _ (fun e => hk (by simp [e]))⟩⟩
      · simp [Builtin.append_, run_underlying Try.underlying26, run_underlying Try.underlying3, sizeOf, typeInfo, zeroValue, hi, hz0, hz1, hz2, asInt, asIntOf, hw, hneg, h48i, hroom, Addr.add_lit, hap]
        have hst' : ∀ vs, vs = u8s (List.replicate m 0) → Sem.run Try.prog (storeCells ⟨g, n, none⟩ vs) w = .ok () (w.setRow g (cur.toList.take n ++ (u8s (List.replicate m 0) ++ cur.toList.drop (n + m))).toArray) := by
          intro vs hvs
          rw [hvs, hst]
          simp
        by_cases h0 : m = 0
        · rw [if_pos h0, hst' [] (by rw [h0]; rfl)]; rfl
        · rw [if_neg h0, hst' _ (zeros_u8 m)]; rfl
      · simp; omega
      · rw [u8s_append]
        have h1 : cur.toList.take n = u8s l := by simpa using htake
        rw [h1]
        simp [hln]
        rw [← List.append_assoc, List.take_append_of_le_length (by simp [hln]), List.take_of_length_le (by simp [hln])]
    · have hm0 : m ≠ 0 := by omega
      have h63' : ¬ (9223372036854775807 < (n : Int) + (m : Int)) := by omega
      have h48' : ¬ (281474976710656 < Builtin.nextslicecap (n + m) cap) := by
        have := growslice_fits (need := n + m) (old := cap) (bytes := 1) (by omega) (by omega)
        omega
      have holds : ∀ j u, (u8s l)[j]? = some u → w.cell? ((⟨g, 0, none⟩ : Addr).add j) = some u := h.cells (g := g) rfl
      have hf := run_firstCells_some (P := Try.prog) w.drew 1 n ⟨g, 0, none⟩ n cap (u8s l) (by simp [hln]) holds
      have hge := grownCap_ge w (n + m) cap 5
      have hcm' : grownCap w (n + m) cap 5 ≤ maxLen := grownCap_le_maxLen w (n + m) cap 5 (by unfold maxLen; omega)
      refine ⟨w.heap.size, grownCap w (n + m) cap 5, w.drew.alloc (.cells ((u8s l).toArray ++ Builtin.zeroCells (Value.int .u8 0).cells m ++ Builtin.zeroCells (Value.int .u8 0).cells (grownCap w (n + m) cap 5 - (n + m))) 5), ?_, ⟨by simp [hln], .inr ⟨w.heap.size, _, _, rfl, hbase, heap_alloc_new w.drew _, hge, hcm', ?_, ?_⟩⟩, ⟨rfl, rfl, rfl, by simp, fun k hk _ => Below.heap_alloc w.drew _ k hk⟩⟩
      · simp [Builtin.append_, run_underlying Try.underlying26, run_underlying Try.underlying3, sizeOf, typeInfo, zeroValue, hi, hz0, hz1, hz2, asInt, asIntOf, hw, hneg, h48i, hroom, hm0, h63', h48', Question.forced, hf, newRow, grownCap]
      · simp [size_zeroCells, Value.cells, hln]; omega
      · rw [u8s_append, ← zeros_u8]
        simp only [Array.toList_append, List.append_assoc]
        rw [← List.append_assoc, List.take_append_of_le_length (by simp [size_zeroCells, Value.cells, hln])]
        exact List.take_of_length_le (by simp [size_zeroCells, Value.cells, hln])

end Go.Proofs.Ythkfaackkcdcoaa

/- Two rows of numbers of one's own, apart from each other; appends to them. -/
namespace Go.Proofs.Ythkfaackkcdcoaa
set_option linter.unusedVariables false
set_option linter.unusedSimpArgs false
open Go.RowKit Dg

structure F2 (W wr : World) (va vb : Value) (la lb : List Int) : Prop where
  a : OwnInts wr W.heap.size va la
  b : OwnInts wr W.heap.size vb lb
  ab : ∀ k, va.ownBlock = some k → vb.ownBlock ≠ some k
  bel : Below W.heap.size W wr
theorem F2.rot {W wr : World} {va vb : Value} {la lb : List Int} (h : F2 W wr va vb la lb) : F2 W wr vb va lb la := ⟨h.b, h.a, fun k hk e => h.ab k e hk, h.bel⟩
theorem F2.drew {W wr : World} {va vb : Value} {la lb : List Int} (h : F2 W wr va vb la lb) : F2 W wr.drew va vb la lb := ⟨World.ownsRow.drew h.a, World.ownsRow.drew h.b, h.ab, h.bel.drew⟩
theorem F2.alloc {W wr : World} {va vb : Value} {la lb : List Int} (h : F2 W wr va vb la lb) (o : Obj) : F2 W (wr.alloc o) va vb la lb := ⟨World.ownsRow.alloc h.a _, World.ownsRow.alloc h.b _, h.ab, h.bel.alloc h.bel.size _⟩
theorem F2.grow {W w w' : World} {va vb v' : Value} {la lb : List Int} {y : Int} (hf : F2 W w va vb la lb) (h1 : OwnInts w' W.heap.size v' (la ++ [y])) (h2 : Kept (fun k => va.ownBlock = some k) w w') (h3 : ∀ k, v'.ownBlock = some k → va.ownBlock = some k ∨ w.heap.size ≤ k) : F2 W w' v' vb (la ++ [y]) lb := by
  refine ⟨h1, ownsRow_other hf.b h2 (fun k hk e => hf.ab k e hk), fun k hk e => ?_, h2.below_of hf.bel (fun k hk => (World.ownsRow.lt hf.a k hk).1) hf.bel.size⟩
  rcases h3 k hk with h4 | h4
  · exact hf.ab k h4 e
  · have := (World.ownsRow.lt hf.b k e).2; omega
theorem wpList_append_f2 {P : Program} (W w0 : World) {ops : Array Oper} {rest : List Oper} {o : Oper} {a : Act} {Q : Exit → Act → World → Prop}
    (hgd : o.guard = none) (s x : Operand) (t : TypeId) (ho : o.op = .call { callee := .builtin .append, args := #[s, x], argTypes := #[t, t] })
    (i : TypeInfo) (ht : P.underlying t = some (.slice 3)) (hi : P.info? 3 = some i) (hz : i.zero = some (.int .i64 0)) (hsize : i.size = 1) (hby : i.bytes = 8)
    (va vb : Value) (la lb : List Int) (hs : a.eval s = va) (hf : F2 W w0 va vb la lb) (y : Int) (hx : a.eval x = .slice (some ⟨w0.heap.size, 0, none⟩) 1 1)
    (hl : la.length ≤ 1000000)
    (h : ∀ v' w', Hid (F2 W w' v' vb (la ++ [y]) lb) → wpList P ops Q rest (a.put o.dst v') w') : wpList P ops Q (o :: rest) a (w0.alloc (.cells #[.int .i64 y] 3)) := by
  refine wpList_append_int_mine w0 hgd s x t ho W.heap.size i ht hi hz hsize hby va la hs hf.a y hx hl hf.bel.size ?_
  intro v' w' h1 h2 h3
  exact h v' w' (hf.grow h1 h2 h3)
/-- 'append(z, n)' of one number that lies in a row of its own, as one step of a region that draws its order. -/
theorem step_append_f2 {P : Program} {ops : Array Oper} {o : Oper} {a : Act} (W w : World) {K : Act → World → Prop} {Q : Exit → Act → World → Prop} {E : Prop}
    (hgd : o.guard = none) (s x : Operand) (t : TypeId) (ho : o.op = .call { callee := .builtin .append, args := #[s, x], argTypes := #[t, t] })
    (i : TypeInfo) (ht : P.underlying t = some (.slice 3)) (hi : P.info? 3 = some i) (hz : i.zero = some (.int .i64 0)) (hsize : i.size = 1) (hby : i.bytes = 8)
    (va vb : Value) (la lb : List Int) (hs : a.eval s = va) (hf : F2 W w va vb la lb) (y : Int) (g : Nat) (hx : a.eval x = .slice (some ⟨g, 0, none⟩) 1 1) (hc : w.cell? ⟨g, 0, none⟩ = some (.int .i64 y))
    (hl : la.length ≤ 1000000)
    (hK : ∀ v' w', Hid (F2 W w' v' vb (la ++ [y]) lb) → Hid (Kept (fun k => va.ownBlock = some k) w w') → K (a.put o.dst v') w') :
    if Region.wanted o (yielded ops a.tmps) = true then Oper.wp P o a w K Q else E := by
  have hw : Region.wanted o (yielded ops a.tmps) = true := by simp [Region.wanted, hgd]
  rw [if_pos hw]
  obtain ⟨v', w', hrun, r1, r2, r3, r4⟩ := run_append_own_at (P := P) w W.heap.size t o.type 3 i (.int .i64 0) 1 8 ht hi hz hsize hby rfl (by decide) va la.length (i64s la) hf.a ⟨g, 0, none⟩ 1 1 [.int .i64 y] rfl
    (by intro j u hj; match j, hj with | 0, hj => simp at hj; subst hj; simpa [Addr.add] using hc) (by intro u hu; simp at hu; subst hu; rfl) (by unfold maxLen; omega) (by omega) hf.bel.size
  unfold Oper.wp
  simp [execOp, ho, resolve, invoke, builtin, hs, hx, hrun, Result.andThen]
  refine hK v' w' ?_ (Kept.grown r2)
  refine hf.grow ?_ (Kept.grown r2) ?_
  · show World.ownsRow _ _ _ _ _ _ _
    simpa [i64s] using r1
  · intro k hk
    rcases r4 with h | h
    · rw [h] at hk; exact .inl hk
    · rw [h] at hk; cases hk; exact .inr (Nat.le_refl _)

end Go.Proofs.Ythkfaackkcdcoaa
