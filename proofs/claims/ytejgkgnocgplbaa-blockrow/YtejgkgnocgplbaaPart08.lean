/- The texts FrmMore, FrmSize, FrmW, Crc1, one behind the other. -/
import Derived.Test.YtejgkgnocgplbaaPart06
import Derived.Test.YtejgkgnocgplbaaPart07
import Derived.Test.YtejgkgnocgplbaaPart01

/- Frames, on: which is the shortest; a frame that is cut short; the first byte; no program. -/
namespace Go.Proofs.Ytejgkgnocgplbaa
set_option linter.unusedVariables false
set_option linter.unusedSimpArgs false
open Go.RowKit Dg

theorem frm_verb {x : List Int} (h : mayX x) (s : Nat) : frm 1 x s = some (headD 1 x.length ++ sampsD x) := by
  unfold frm
  rw [if_neg (by simp [h]), if_neg (by decide), if_pos rfl]
theorem frm_ne {kind : Int} {x : List Int} {s : Nat} {D : List Bool} (h : frm kind x s = some D) : 16 ≤ D.length ∧ mayX x ∧ 0 ≤ kind ∧ kind ≤ 18 ∧ ∃ E, D = headD kind x.length ++ E := by
  have key : ∀ E, D = headD kind x.length ++ E → 16 ≤ D.length := fun E e => by rw [e]; simp
  unfold frm at h
  by_cases hk : ¬ mayX x ∨ kind < 0 ∨ 18 < kind
  · rw [if_pos hk] at h; cases h
  rw [if_neg hk] at h
  have hm : mayX x := by
    by_cases hm : mayX x
    · exact hm
    · exact absurd (Or.inl hm) hk
  have fin : (∃ E, D = headD kind x.length ++ E) → 16 ≤ D.length ∧ mayX x ∧ 0 ≤ kind ∧ kind ≤ 18 ∧ ∃ E, D = headD kind x.length ++ E := fun ⟨E, e⟩ => ⟨key E e, hm, by omega, by omega, E, e⟩
  apply fin
  by_cases h0 : kind = 0
  · rw [if_pos h0] at h
    by_cases ha : allOne x
    · rw [if_pos ha] at h; cases h; exact ⟨_, rfl⟩
    · rw [if_neg ha] at h; cases h
  rw [if_neg h0] at h
  by_cases h1 : kind = 1
  · rw [if_pos h1] at h; cases h; exact ⟨_, rfl⟩
  rw [if_neg h1] at h
  by_cases h6 : kind ≤ 6
  · rw [if_pos h6] at h
    by_cases hl : (x.length : Int) < kind - 2
    · rw [if_pos hl] at h; cases h
    rw [if_neg hl] at h
    by_cases hz : okZ (residZ x (kind - 2).toNat)
    · rw [if_pos hz] at h; cases h; exact ⟨_, List.append_assoc _ _ _⟩
    · rw [if_neg hz] at h; cases h
  rw [if_neg h6] at h
  by_cases hc : (coOut x (kind - 6) s).2 = true
  · rw [if_pos hc] at h
    by_cases hz : okZ (lresidZ x (coOut x (kind - 6) s).1)
    · rw [if_pos hz] at h; cases h; exact ⟨_, by simp only [List.append_assoc]; rfl⟩
    · rw [if_neg hz] at h; cases h
  · rw [if_neg hc] at h; cases h
/-- The shortest of the first kinds is one of them, and none is shorter. -/
theorem bestF_cases (x : List Int) (s j : Nat) : (bestF x s j = [] ∧ ∀ i, i < j → frm (i : Int) x s = none) ∨ ∃ i, i < j ∧ frm (i : Int) x s = some (bestF x s j) ∧ ∀ k D, k < j → frm (k : Int) x s = some D → (bestF x s j).length ≤ D.length ∧ (k < i → (bestF x s j).length < D.length) := by
  induction j with
  | zero => exact .inl ⟨rfl, fun i hi => by omega⟩
  | succ j ih =>
    cases hF : frm (j : Int) x s with
    | none =>
      have e : bestF x s (j + 1) = bestF x s j := by simp only [bestF]; rw [hF]
      rw [e]
      rcases ih with ⟨h1, h2⟩ | ⟨i, h1, h2, h3⟩
      · refine .inl ⟨h1, fun i hi => ?_⟩
        rcases (by omega : i < j ∨ i = j) with h | h
        · exact h2 i h
        · rw [h]; exact hF
      · refine .inr ⟨i, by omega, h2, fun k D hk hD => ?_⟩
        rcases (by omega : k < j ∨ k = j) with h | h
        · exact h3 k D h hD
        · rw [h, hF] at hD; cases hD
    | some b =>
      have hb := (frm_ne hF).1
      have e : bestF x s (j + 1) = if (bestF x s j).length = 0 ∨ b.length < (bestF x s j).length then b else bestF x s j := by simp only [bestF]; rw [hF]
      rcases ih with ⟨h1, h2⟩ | ⟨i, h1, h2, h3⟩
      · have e2 : bestF x s (j + 1) = b := by rw [e, if_pos (.inl (by rw [h1]; rfl))]
        rw [e2]
        refine .inr ⟨j, by omega, hF, fun k D hk hD => ?_⟩
        rcases (by omega : k < j ∨ k = j) with h | h
        · rw [h2 k h] at hD; cases hD
        · rw [h, hF] at hD; cases hD; exact ⟨Nat.le_refl _, fun h => by omega⟩
      · have hbe := (frm_ne h2).1
        by_cases hlt : b.length < (bestF x s j).length
        · have e2 : bestF x s (j + 1) = b := by rw [e, if_pos (.inr hlt)]
          rw [e2]
          refine .inr ⟨j, by omega, hF, fun k D hk hD => ?_⟩
          rcases (by omega : k < j ∨ k = j) with h | h
          · have := (h3 k D h hD).1
            exact ⟨by omega, fun _ => by omega⟩
          · rw [h, hF] at hD; cases hD; exact ⟨Nat.le_refl _, fun h => by omega⟩
        · have e2 : bestF x s (j + 1) = bestF x s j := by rw [e, if_neg (by omega)]
          rw [e2]
          refine .inr ⟨i, by omega, h2, fun k D hk hD => ?_⟩
          rcases (by omega : k < j ∨ k = j) with h | h
          · exact h3 k D h hD
          · rw [h, hF] at hD; cases hD; exact ⟨by omega, fun h => by omega⟩
/-- Of samples that may be there is a shortest frame. -/
theorem bestF_any {x : List Int} (h : mayX x) (s : Nat) : ∃ i : Nat, i < 19 ∧ frm (i : Int) x s = some (bestF x s 19) ∧ ∀ (k : Nat) (D : List Bool), k < 19 → frm (k : Int) x s = some D → (bestF x s 19).length ≤ D.length ∧ (k < i → (bestF x s 19).length < D.length) := by
  rcases bestF_cases x s 19 with ⟨-, h2⟩ | h1
  · have := h2 1 (by decide)
    rw [show ((1 : Nat) : Int) = 1 from rfl, frm_verb h s] at this
    cases this
  · exact h1
theorem bestF_verb {x : List Int} (h : mayX x) (s : Nat) : (bestF x s 19).length ≤ 16 + 24 * x.length := by
  obtain ⟨i, -, -, h3⟩ := bestF_any h s
  have := (h3 1 _ (by decide) (frm_verb h s)).1
  simp at this
  exact this
/-- Bytes behind bytes. -/
theorem unpack_append (l m : List Nat) : unpack (l ++ m) = unpack l ++ unpack m := by simp [unpack]
theorem unpack_zeros (k : Nat) : unpack (List.replicate k 0) = List.replicate (8 * k) false := by
  induction k with
  | zero => rfl
  | succ k ih =>
    rw [List.replicate_succ, unpack_cons, ih]
    have e : (List.range 8).map (digitOf 0) = List.replicate 8 false := by decide
    rw [e, List.replicate_append_replicate]
    congr 1
    omega
/-- A frame's bytes, and anything behind them. -/
theorem decD_pack {kind : Int} {x : List Int} {s : Nat} {D : List Bool} (h : frm kind x s = some D) (m : List Nat) : decD (unpack (pack D ++ m)) = if noOnes (unpack m) = true then some x else none := by
  rw [unpack_append, unpack_pack, List.append_assoc, decD_tail h]
  have e : noOnes (List.replicate ((8 - D.length % 8) % 8) false ++ unpack m) = noOnes (unpack m) := by
    unfold noOnes
    rw [List.any_append]
    simp
  rw [e]
theorem decOut_pack {kind : Int} {x : List Int} {s : Nat} {D : List Bool} (h : frm kind x s = some D) (E : Int) : decOut E (pack D) = (x, 0) := by
  have := decD_pack h []
  rw [List.append_nil, if_pos (by rfl)] at this
  unfold decOut
  rw [this]
theorem pack_first {kind : Int} {n : Nat} {E : List Bool} (h0 : 0 ≤ kind) (h1 : kind ≤ 18) : (pack (headD kind n ++ E)).getD 0 0 = kind.toNat := by
  have hl : 0 < ((headD kind n ++ E).length + 7) / 8 := by simp; omega
  rw [List.getD, pack_get _ 0 hl]
  simp only [Option.getD_some]
  have hu := unpack_pack (headD kind n ++ E)
  have hx := byteAt_lt (headD kind n ++ E) 0
  obtain ⟨b, hb⟩ : ∃ b, b = byteAt (headD kind n ++ E) 0 := ⟨_, rfl⟩
  rw [← hb] at hx ⊢
  have e1 : (unpack (pack (headD kind n ++ E))).take 8 = dig (b : Int) 8 := by
    have e2 : pack (headD kind n ++ E) = b :: (pack (headD kind n ++ E)).tail := by
      have h2 := pack_get (headD kind n ++ E) 0 hl
      cases hp : pack (headD kind n ++ E) with
      | nil => rw [hp] at h2; simp at h2
      | cons y ys => rw [hp] at h2; simp at h2; rw [hb, h2]; rfl
    rw [e2, unpack_cons, ← dig8, List.take_left' (by simp)]
  have e3 : (unpack (pack (headD kind n ++ E))).take 8 = dig kind 8 := by
    rw [hu]
    unfold headD
    simp only [List.append_assoc]
    rw [List.take_left' (by simp)]
  have h4 := num_dig (b : Int) 8
  have h5 := num_dig kind 8
  rw [← e1, e3, h5] at h4
  omega
theorem kindOut_pack {kind : Int} {x : List Int} {s : Nat} {D : List Bool} (h : frm kind x s = some D) : kindOut (pack D) = kind := by
  have h1 := decD_pack h []
  rw [List.append_nil, if_pos (by rfl)] at h1
  obtain ⟨-, -, h2, h3, E, rfl⟩ := frm_ne h
  unfold kindOut
  rw [h1]
  simp only
  rw [pack_first h2 h3]
  omega

theorem takeD_ext {ds : List Bool} {n : Nat} {q : Nat × List Bool} (h : takeD ds n = some q) (t : List Bool) : takeD (ds ++ t) n = some (q.1, q.2 ++ t) := by
  unfold takeD at h ⊢
  split at h
  · rename_i hl
    cases h
    rw [if_pos (by simp; omega), List.take_append_of_le_length hl, List.drop_append_of_le_length hl]
  · cases h
theorem sampsT_ext : ∀ (n : Nat) (ds : List Bool) (q : List Int × List Bool), sampsT n ds = some q → ∀ t, sampsT n (ds ++ t) = some (q.1, q.2 ++ t) := by
  intro n
  induction n with
  | zero => intro ds q h t; simp [sampsT] at h ⊢; subst h; exact ⟨rfl, rfl⟩
  | succ n ih =>
    intro ds q h t
    rw [sampsT] at h ⊢
    obtain ⟨r, h1, h2⟩ := Option.bind_eq_some_iff.1 h
    obtain ⟨q', h3, rfl⟩ := Option.map_eq_some_iff.1 h2
    rw [takeD_ext h1 t]
    simp only [Option.bind_some]
    rw [ih _ _ h3 t]
    rfl
theorem coefsT_ext : ∀ (n : Nat) (ds : List Bool) (q : List Int × List Bool), coefsT n ds = some q → ∀ t, coefsT n (ds ++ t) = some (q.1, q.2 ++ t) := by
  intro n
  induction n with
  | zero => intro ds q h t; simp [coefsT] at h ⊢; subst h; exact ⟨rfl, rfl⟩
  | succ n ih =>
    intro ds q h t
    rw [coefsT] at h ⊢
    obtain ⟨r, h1, h2⟩ := Option.bind_eq_some_iff.1 h
    obtain ⟨q', h3, rfl⟩ := Option.map_eq_some_iff.1 h2
    rw [takeD_ext h1 t]
    simp only [Option.bind_some]
    rw [ih _ _ h3 t]
    rfl
theorem getOut_ext {ds : List Bool} {n : Int} (h : (getOut ds n).2.2 = true) (t : List Bool) : getOut (ds ++ t) n = getOut ds n ∧ (getOut ds n).2.1 ≤ ds.length := by
  unfold getOut at h ⊢
  by_cases hc : 0 ≤ n ∧ n ≤ 62 ∧ n ≤ ds.length
  · rw [if_pos hc, if_pos ⟨hc.1, hc.2.1, by simp; omega⟩, List.take_append_of_le_length (by omega)]
    exact ⟨rfl, by simp; omega⟩
  · rw [if_neg hc] at h; cases h
theorem lead_ext (t : List Bool) : ∀ (ds : List Bool) (m : Nat), (lead ds m = m ∨ lead ds m < ds.length) → lead (ds ++ t) m = lead ds m := by
  intro ds
  induction ds with
  | nil =>
    intro m h
    cases m with
    | zero => cases t <;> rfl
    | succ m => rcases h with h | h <;> simp [lead] at h
  | cons d ds ih =>
    intro m h
    cases m with
    | zero => rfl
    | succ m =>
      cases d with
      | false => rfl
      | true =>
        simp only [List.cons_append, lead] at h ⊢
        rw [ih m (by simp at h; omega)]
theorem onesOut_ext {ds : List Bool} {n : Int} (h : (onesOut ds n).2.2 = true) (t : List Bool) : onesOut (ds ++ t) n = onesOut ds n ∧ (onesOut ds n).2.1 ≤ ds.length := by
  unfold onesOut at h ⊢
  by_cases hc : 0 ≤ n ∧ n ≤ 1024
  · rw [if_pos hc] at h
    rw [if_pos hc, if_pos hc]
    have hle := lead_le_length ds n.toNat
    by_cases h1 : lead ds n.toNat = n.toNat
    · rw [lead_ext t ds _ (.inl h1), if_pos h1, if_pos h1]
      exact ⟨rfl, by simp; omega⟩
    · rw [if_neg h1] at h
      by_cases h2 : lead ds n.toNat = ds.length
      · rw [if_pos h2] at h; cases h
      · rw [lead_ext t ds _ (.inr (by omega)), if_neg h1, if_neg h1, if_neg h2, if_neg (by simp; omega)]
        exact ⟨rfl, by simp; omega⟩
  · rw [if_neg hc] at h; cases h
theorem riceOut_ext {ds : List Bool} {k : Int} (h : (riceOut ds k).2.2 = true) (t : List Bool) : riceOut (ds ++ t) k = riceOut ds k ∧ (riceOut ds k).2.1 ≤ ds.length := by
  unfold riceOut at h ⊢
  by_cases hp : isPar k = true
  case neg => rw [if_neg hp] at h; cases h
  rw [if_pos hp] at h
  rw [if_pos hp, if_pos hp]
  by_cases ho : (onesOut ds 24).2.2 = true
  case neg => rw [if_neg ho] at h; cases h
  obtain ⟨e1, e2⟩ := onesOut_ext ho t
  rw [if_pos ho] at h
  rw [e1, if_pos ho, if_pos ho]
  have hk := isPar_true hp
  rcases onesOut_cases ds with hc | hc | ⟨c, hc24, hc⟩
  · rw [hc] at ho; cases ho
  · rw [hc] at h e2 ⊢
    simp only [if_true] at h e2 ⊢
    by_cases hg : (getOut (ds.drop 24) 32).2.2 = true ∧ 24 ≤ (getOut (ds.drop 24) 32).1 / 2 ^ k.toNat
    · obtain ⟨f1, f2⟩ := getOut_ext hg.1 t
      have f3 : (getOut (ds.drop 24) 32).2.1 = 32 := by
        rcases getOut_cases (ds.drop 24) 32 with h1 | ⟨v, -, -, h1⟩
        · have h2 := hg.1
          rw [show getOut (ds.drop 24) 32 = (0, 0, false) from h1] at h2; cases h2
        · rw [show getOut (ds.drop 24) 32 = (v, 32, true) from h1]
      rw [List.drop_append_of_le_length e2, f1, if_pos hg]
      rw [f3] at f2
      simp at f2
      exact ⟨rfl, by simp; omega⟩
    · rw [if_neg hg] at h; cases h
  · rw [hc] at h e2 ⊢
    have hne : ¬ c = 24 := by omega
    simp only [if_neg hne] at h e2 ⊢
    by_cases hg : (getOut (ds.drop (c + 1)) k).2.2 = true
    · obtain ⟨f1, f2⟩ := getOut_ext hg t
      have f3 : (getOut (ds.drop (c + 1)) k).2.1 = k.toNat := by
        have ek : k = ((k.toNat : Nat) : Int) := by omega
        rcases getOut_cases (ds.drop (c + 1)) k.toNat with h1 | ⟨v, -, -, h1⟩
        · rw [← ek] at h1; rw [h1] at hg; cases hg
        · rw [← ek] at h1; rw [h1]
      rw [List.drop_append_of_le_length e2, f1, if_pos hg]
      rw [f3] at f2
      simp at f2
      exact ⟨rfl, by simp; omega⟩
    · rw [if_neg hg] at h; cases h
theorem ricesT_ext (k : Nat) : ∀ (n : Nat) (ds : List Bool) (q : List Int × List Bool), ricesT k n ds = some q → ∀ t, ricesT k n (ds ++ t) = some (q.1, q.2 ++ t) := by
  intro n
  induction n with
  | zero => intro ds q h t; simp [ricesT] at h ⊢; subst h; exact ⟨rfl, rfl⟩
  | succ n ih =>
    intro ds q h t
    rw [ricesT] at h ⊢
    split at h
    · rename_i ho
      obtain ⟨q', h3, rfl⟩ := Option.map_eq_some_iff.1 h
      obtain ⟨e1, e2⟩ := riceOut_ext ho t
      rw [e1, if_pos ho, List.drop_append_of_le_length e2, ih _ _ h3 t]
      rfl
    · cases h
theorem resT_ext {n : Nat} {ds : List Bool} {q : List Int × List Bool} (h : resT n ds = some q) (t : List Bool) : resT n (ds ++ t) = some (q.1, q.2 ++ t) := by
  unfold resT at h ⊢
  obtain ⟨r, h1, h2⟩ := Option.bind_eq_some_iff.1 h
  rw [takeD_ext h1 t]
  simp only [Option.bind_some]
  split at h2
  · cases h2
  · rename_i hk
    rw [if_neg hk]
    exact ricesT_ext _ _ _ _ h2 t
theorem bodyT_ext {K n : Nat} {x : List Int} {ds : List Bool} {q : List Int × List Bool} (h : bodyT K n x ds = some q) (t : List Bool) : bodyT K n x (ds ++ t) = some (q.1, q.2 ++ t) := by
  unfold bodyT at h ⊢
  by_cases h0 : K = 0
  · rw [if_pos h0] at h ⊢; cases h; rfl
  rw [if_neg h0] at h ⊢
  by_cases h1 : K = 1
  · rw [if_pos h1] at h ⊢; cases h; rfl
  rw [if_neg h1] at h ⊢
  by_cases h6 : K ≤ 6
  · rw [if_pos h6] at h ⊢
    obtain ⟨r, g1, g2⟩ := Option.bind_eq_some_iff.1 h
    rw [resT_ext g1 t]
    simp only [Option.bind_some]
    split at g2
    · rename_i hz; rw [if_pos hz]; cases g2; rfl
    · cases g2
  · rw [if_neg h6] at h ⊢
    obtain ⟨c, g0, g⟩ := Option.bind_eq_some_iff.1 h
    obtain ⟨r, g1, g2⟩ := Option.bind_eq_some_iff.1 g
    rw [coefsT_ext _ _ _ g0 t]
    simp only [Option.bind_some]
    rw [resT_ext g1 t]
    simp only [Option.bind_some]
    split at g2
    · rename_i hz; rw [if_pos hz]; cases g2; rfl
    · cases g2
theorem decP_ext {ds : List Bool} {q : List Int × List Bool} (h : decP ds = some q) (t : List Bool) : decP (ds ++ t) = some (q.1, q.2 ++ t) := by
  unfold decP at h ⊢
  obtain ⟨r1, h1, h⟩ := Option.bind_eq_some_iff.1 h
  obtain ⟨r2, h2, h⟩ := Option.bind_eq_some_iff.1 h
  rw [takeD_ext h1 t]
  simp only [Option.bind_some]
  rw [takeD_ext h2 t]
  simp only [Option.bind_some]
  split at h
  · cases h
  · rename_i hg
    rw [if_neg hg]
    obtain ⟨r3, h3, h⟩ := Option.bind_eq_some_iff.1 h
    rw [sampsT_ext _ _ _ h3 t]
    simp only [Option.bind_some]
    exact bodyT_ext h t
/-- A frame that is cut short is none. -/
theorem decD_cut {kind : Int} {x : List Int} {s : Nat} {D E F : List Bool} (h : frm kind x s = some D) (t : List Bool) (e : D ++ t = E ++ F) (hl : E.length < D.length) : decD E = none := by
  cases hE : decP E with
  | none => rw [decD_P, hE]; rfl
  | some q =>
    have h1 := decP_ext hE F
    rw [← e, decP_tail h t] at h1
    cases h1
    have h2 := congrArg List.length e
    simp at h2
    omega
theorem decD_short8 {kind : Int} {x : List Int} {s : Nat} {D : List Bool} (h : frm kind x s = some D) : decD (unpack ((pack D).take ((pack D).length - 1))) = none := by
  have hD := (frm_ne h).1
  refine decD_cut (t := List.replicate ((8 - D.length % 8) % 8) false) (F := unpack ((pack D).drop ((pack D).length - 1))) h ?_ (by simp; omega)
  rw [← unpack_pack, ← unpack_append, List.take_append_drop]

end Go.Proofs.Ytejgkgnocgplbaa

/- How long frames are: small numbers, samples that are all alike, lines; no program. -/
namespace Go.Proofs.Ytejgkgnocgplbaa
set_option linter.unusedVariables false
set_option linter.unusedSimpArgs false
open Go.RowKit Dg

theorem len_residD {l : List Int} (h : okZ l) : ((residD l).length : Int) = 5 + sumSize (zigs l) (parOf l : Int) := by
  have := (length_digs (zigs l) (parOf l) (okZ_num h) (parOf_le l)).1
  unfold residD
  simp only [List.length_append, length_dig]
  omega
theorem best_le (l : List Int) (k : Nat) (hk : k ≤ 24) : sumSize (zigs l) (parOf l : Int) ≤ sumSize (zigs l) (k : Int) := by
  have h1 := bestTo_size (zigs l) 24
  have h2 := (bestTo_least (zigs l) 24 k hk).1
  unfold parOf
  rw [h1] at h2
  exact h2
theorem sumSize_cons (z : Int) (l : List Int) (k : Int) : sumSize (z :: l) k = sizeOf1 z k + sumSize l k := by simp [sumSize]
theorem sumSize_app (l m : List Int) (k : Int) : sumSize (l ++ m) k = sumSize l k + sumSize m k := by
  induction l with
  | nil => simp [sumSize]
  | cons z l ih => rw [List.cons_append, sumSize_cons, sumSize_cons, ih]; omega
theorem sumSize_le {l : List Int} {k M : Int} (h : ∀ z ∈ l, sizeOf1 z k ≤ M) : sumSize l k ≤ M * (l.length : Int) := by
  induction l with
  | nil => simp [sumSize]
  | cons z l ih =>
    have h1 := h z (by simp)
    have h2 := ih (fun y hy => h y (by simp [hy]))
    rw [sumSize_cons, List.length_cons]
    have e : M * ((l.length + 1 : Nat) : Int) = M * (l.length : Int) + M := by rw [show ((l.length + 1 : Nat) : Int) = (l.length : Int) + 1 by omega, Int.mul_add, Int.mul_one]
    omega
theorem sizeOf1_at {z : Int} {k : Nat} (hz : isNum z = true) (hk : k ≤ 24) : sizeOf1 z (k : Int) = sizeIn z k := by
  unfold sizeOf1
  rw [if_pos ⟨hz, by simp [isPar]; omega⟩, Int.toNat_natCast]
theorem sizeIn_ge {z : Int} (hz : 0 ≤ z) {k : Nat} (hk : k ≤ 24) : 1 + (k : Int) ≤ sizeIn z k := by
  have := quot_le z k hz
  unfold sizeIn
  split <;> omega
theorem sumSize_ge {l : List Int} {k : Nat} (h : ∀ z ∈ l, isNum z = true) (hk : k ≤ 24) : (l.length : Int) ≤ sumSize l (k : Int) := by
  induction l with
  | nil => simp [sumSize]
  | cons z l ih =>
    have h1 := h z (by simp)
    have h2 := ih (fun y hy => h y (by simp [hy]))
    have h3 := sizeIn_ge (isNum_true h1).1 hk
    rw [sumSize_cons, List.length_cons, sizeOf1_at h1 hk]
    omega
theorem residZ_zero (x : List Int) : residZ x 0 = x := by
  unfold residZ
  refine List.ext_getElem? (fun i => ?_)
  by_cases hi : i < x.length
  · rw [List.getElem?_map, List.getElem?_range (by omega)]
    have e : guessZ (x.take (0 + i)) (coefs ((0 : Nat) : Int)) = 0 := rfl
    simp only [Option.map_some]
    rw [e, Nat.zero_add, Int.sub_zero]
    simp [List.getD, hi]
  · rw [List.getElem?_eq_none (by simp; omega), List.getElem?_eq_none (by omega)]
/-- The frame of order 0. -/
theorem frm_two {x : List Int} (h : mayX x) (hz : okZ x) (s : Nat) : frm 2 x s = some (headD 2 x.length ++ [] ++ residD x) := by
  unfold frm
  rw [if_neg (by simp [h]), if_neg (by decide), if_neg (by decide), if_pos (by decide)]
  have e : ((2 : Int) - 2).toNat = 0 := rfl
  rw [e, residZ_zero, if_neg (by omega), if_pos hz]
  rfl
theorem best_small {x : List Int} (h : mayX x) (hs : ∀ v ∈ x, 0 ≤ v ∧ v ≤ 15) (s : Nat) : (bestF x s 19).length ≤ 21 + 6 * x.length := by
  have hzz : ∀ v ∈ x, zigOf v = 2 * v := fun v hv => by
    have := hs v hv
    unfold zigOf
    rw [if_neg (by omega), if_neg (by omega)]
  have hok : okZ x := by
    intro z hz
    obtain ⟨v, hv, rfl⟩ := List.mem_map.1 hz
    rw [hzz v hv]
    have := hs v hv
    omega
  obtain ⟨i, -, -, h3⟩ := bestF_any h s
  have h4 := (h3 2 _ (by decide) (frm_two h hok s)).1
  have h5 := len_residD hok
  have h6 := best_le x 4 (by decide)
  have h7 : sumSize (zigs x) ((4 : Nat) : Int) ≤ 6 * ((zigs x).length : Int) := by
    refine sumSize_le (fun z hz => ?_)
    rw [sizeOf1_at (okZ_num hok z hz) (by decide)]
    obtain ⟨v, hv, rfl⟩ := List.mem_map.1 hz
    rw [hzz v hv]
    have := hs v hv
    unfold sizeIn
    split
    · omega
    · omega
  rw [length_zigs] at h7
  simp at h4
  omega
theorem okZ_len {l : List Int} (h : okZ l) : 5 + l.length ≤ (residD l).length := by
  have h1 := len_residD h
  have h2 := sumSize_ge (okZ_num h) (parOf_le l)
  rw [length_zigs] at h2
  omega
/-- Every frame that is no constant has more digits than one, where there are 20 samples and more. -/
theorem frm_long {k : Nat} {x : List Int} {s : Nat} {D : List Bool} (h : frm (k : Int) x s = some D) (hk : k ≠ 0) (hx : 20 ≤ x.length) : 41 ≤ D.length := by
  unfold frm at h
  by_cases hb : ¬ mayX x ∨ (k : Int) < 0 ∨ 18 < (k : Int)
  · rw [if_pos hb] at h; cases h
  rw [if_neg hb, if_neg (by omega)] at h
  by_cases h1 : (k : Int) = 1
  · rw [if_pos h1] at h; cases h; simp; omega
  rw [if_neg h1] at h
  by_cases h6 : (k : Int) ≤ 6
  · rw [if_pos h6] at h
    by_cases hl : (x.length : Int) < (k : Int) - 2
    · rw [if_pos hl] at h; cases h
    rw [if_neg hl] at h
    by_cases hz : okZ (residZ x ((k : Int) - 2).toNat)
    · rw [if_pos hz] at h
      cases h
      have := okZ_len hz
      simp at this ⊢
      omega
    · rw [if_neg hz] at h; cases h
  rw [if_neg h6] at h
  obtain ⟨⟨c, b⟩, hc⟩ : ∃ R, R = coOut x ((k : Int) - 6) s := ⟨_, rfl⟩
  rw [← hc] at h
  simp only at h
  cases b with
  | false => simp at h
  | true =>
    rw [if_pos rfl] at h
    obtain ⟨g1, g2, g3, g4, g5⟩ := coOut_true hc.symm
    by_cases hz : okZ (lresidZ x c)
    · rw [if_pos hz] at h
      cases h
      have := okZ_len hz
      simp at this ⊢
      omega
    · rw [if_neg hz] at h; cases h
theorem best_const {x : List Int} (h : mayX x) (hall : allOne x) (hx : 20 ≤ x.length) (s : Nat) : frm 0 x s = some (bestF x s 19) ∧ (bestF x s 19).length = 40 := by
  have h0 : frm 0 x s = some (headD 0 x.length ++ sampD (x.getD 0 0)) := by
    unfold frm
    rw [if_neg (by simp [h]), if_pos rfl, if_pos hall]
  obtain ⟨i, h1, h2, h3⟩ := bestF_any h s
  have h4 := (h3 0 _ (by decide) h0).1
  simp at h4
  by_cases hi : i = 0
  · subst hi
    have h5 : frm 0 x s = some (bestF x s 19) := h2
    rw [h0] at h5
    refine ⟨h2, ?_⟩
    have h6 := Option.some.inj h5
    rw [← h6]
    simp
  · have := frm_long h2 hi hx
    omega
/-- Two numbers that lie ten apart have no few digits. -/
theorem pair_ge {a b : Int} (ha : isNum (zigOf a) = true) (hb : isNum (zigOf b) = true) (hs1 : -2000000 ≤ a ∧ a ≤ 2000000) (hs2 : -2000000 ≤ b ∧ b ≤ 2000000) (h : a + 10 ≤ b) {k : Nat} (hk : k ≤ 24) : 8 ≤ sizeOf1 (zigOf a) (k : Int) + sizeOf1 (zigOf b) (k : Int) := by
  rw [sizeOf1_at ha hk, sizeOf1_at hb hk]
  have h1 := sizeIn_ge (isNum_true ha).1 hk
  have h2 := sizeIn_ge (isNum_true hb).1 hk
  by_cases h3 : 3 ≤ k
  · omega
  · have ez : 18 ≤ zigOf a + zigOf b := by
      have za : zigOf a = if a < 0 then -2 * a - 1 else 2 * a := by unfold zigOf; rw [if_neg (by omega)]
      have zb : zigOf b = if b < 0 then -2 * b - 1 else 2 * b := by unfold zigOf; rw [if_neg (by omega)]
      rw [za, zb]
      split <;> split <;> omega
    have hz1 := (isNum_true ha).1
    have hz2 := (isNum_true hb).1
    unfold sizeIn
    rcases (by omega : k = 0 ∨ k = 1 ∨ k = 2) with rfl | rfl | rfl
    · split <;> split <;> omega
    · split <;> split <;> omega
    · split <;> split <;> omega
theorem pairs_ge (A B : List Int) (k : Nat) (hl : A.length = B.length) (h : ∀ (i : Nat) (a b : Int), A[i]? = some a → B[i]? = some b → 8 ≤ sizeOf1 a (k : Int) + sizeOf1 b (k : Int)) : 8 * (A.length : Int) ≤ sumSize A (k : Int) + sumSize B (k : Int) := by
  induction A generalizing B with
  | nil => cases B with
    | nil => simp [sumSize]
    | cons b B => simp at hl
  | cons a A ih => cases B with
    | nil => simp at hl
    | cons b B =>
      have h1 := h 0 a b rfl rfl
      have h2 := ih B (by simpa using hl) (fun i x y hx hy => h (i + 1) x y (by simpa using hx) (by simpa using hy))
      rw [sumSize_cons, sumSize_cons, List.length_cons]
      omega
/-- A line. -/
structure Line (x : List Int) (v st : Int) : Prop where
  len1 : 20 ≤ x.length
  len2 : x.length ≤ 64
  at_ : ∀ i : Nat, i < x.length → x[i]? = some (v + st * (i : Int))
  v1 : -524288 ≤ v
  v2 : v ≤ 524288
  st1 : 1 ≤ st
  st2 : st ≤ 1000
theorem Line.small {x : List Int} {v st : Int} (h : Line x v st) {y : Int} (hy : y ∈ x) : -2000000 ≤ y ∧ y ≤ 2000000 := by
  obtain ⟨i, hi, e⟩ := List.getElem_of_mem hy
  have h1 := h.at_ i hi
  rw [List.getElem?_eq_getElem hi, e] at h1
  cases h1
  have h2 : 0 ≤ st * (i : Int) := Int.mul_nonneg (by have := h.st1; omega) (by omega)
  have h3 : st * (i : Int) ≤ 1000 * (i : Int) := Int.mul_le_mul_of_nonneg_right h.st2 (by omega)
  have := h.v1
  have := h.v2
  have := h.len2
  omega
theorem Line.may {x : List Int} {v st : Int} (h : Line x v st) : mayX x := ⟨by have := h.len1; omega, h.len2, fun y hy => by have := h.small hy; unfold isS; omega⟩
theorem Line.get {x : List Int} {v st : Int} (h : Line x v st) {i : Nat} (hi : i < x.length) : at0 x i = v + st * (i : Int) := getD_of (h.at_ i hi)
theorem Line.resid {x : List Int} {v st : Int} (h : Line x v st) : residZ x 2 = List.replicate (x.length - 2) 0 := by
  refine List.eq_replicate_iff.2 ⟨by simp, fun y hy => ?_⟩
  obtain ⟨j, hj, e⟩ := List.getElem_of_mem hy
  have hj' : 2 + j < x.length := by simp at hj; omega
  have h1 := residZ_at x 2 j (by decide) hj'
  rw [List.getElem?_eq_getElem hj, e] at h1
  have h2 := Option.some.inj h1
  rw [h2]
  have e2 : tell 2 (at0 x) (2 + j) = 2 * at0 x (1 + j) - at0 x j := by
    show 2 * at0 x (2 + j - 1) - at0 x (2 + j - 2) = _
    rw [show 2 + j - 1 = 1 + j by omega, show 2 + j - 2 = j by omega]
  rw [e2, h.get hj', h.get (by omega), h.get (by omega)]
  have b1 : ((2 + j : Nat) : Int) = (j : Int) + 2 := by omega
  have b2 : ((1 + j : Nat) : Int) = (j : Int) + 1 := by omega
  rw [b1, b2]
  grind
theorem zeros_ok (m : Nat) : okZ (List.replicate m 0) := by
  intro z hz
  obtain ⟨v, hv, rfl⟩ := List.mem_map.1 hz
  have := List.eq_of_mem_replicate hv
  subst this
  decide
theorem zeros_sum (m : Nat) : sumSize (zigs (List.replicate m 0)) ((0 : Nat) : Int) = (m : Int) := by
  induction m with
  | zero => rfl
  | succ m ih =>
    have e : zigs (List.replicate (m + 1) 0) = 0 :: zigs (List.replicate m 0) := rfl
    rw [e, sumSize_cons, ih]
    have : sizeOf1 0 ((0 : Nat) : Int) = 1 := by decide
    omega
theorem Line.four {x : List Int} {v st : Int} (h : Line x v st) (s : Nat) : ∃ D, frm 4 x s = some D ∧ D.length ≤ 67 + x.length := by
  have hz := zeros_ok (x.length - 2)
  have h1 := h.len1
  refine ⟨headD 4 x.length ++ sampsD (x.take 2) ++ residD (List.replicate (x.length - 2) 0), ?_, ?_⟩
  · unfold frm
    rw [if_neg (by simp [h.may]), if_neg (by decide), if_neg (by decide), if_pos (by decide)]
    have e : ((4 : Int) - 2).toNat = 2 := rfl
    rw [e, h.resid, if_neg (by omega), if_pos hz]
  · have h2 := len_residD hz
    have h3 := best_le (List.replicate (x.length - 2) 0) 0 (by decide)
    rw [zeros_sum] at h3
    simp
    omega
theorem Line.zig_num {x : List Int} {v st : Int} (h : Line x v st) : okZ x := by
  intro z hz
  obtain ⟨y, hy, rfl⟩ := List.mem_map.1 hz
  have := h.small hy
  unfold zigOf
  rw [if_neg (by omega)]
  split <;> omega
theorem Line.sum {x : List Int} {v st : Int} (h : Line x v st) {k : Nat} (hk : k ≤ 24) : 60 + (x.length : Int) ≤ sumSize (zigs x) (k : Int) := by
  have hl := h.len1
  have e : zigs x = zigs (x.take 10) ++ (zigs ((x.drop 10).take 10) ++ zigs (x.drop 20)) := by
    unfold zigs
    rw [← List.map_append, ← List.map_append]
    congr 1
    have e1 : x.drop 20 = (x.drop 10).drop 10 := by rw [List.drop_drop]
    rw [e1, List.take_append_drop, List.take_append_drop]
  have hn := okZ_num h.zig_num
  have h1 : 8 * ((zigs (x.take 10)).length : Int) ≤ sumSize (zigs (x.take 10)) (k : Int) + sumSize (zigs ((x.drop 10).take 10)) (k : Int) := by
    refine pairs_ge _ _ k (by simp; omega) (fun i a b ha hb => ?_)
    unfold zigs at ha hb
    rw [List.getElem?_map] at ha hb
    obtain ⟨p, hp, rfl⟩ := Option.map_eq_some_iff.1 ha
    obtain ⟨q, hq, rfl⟩ := Option.map_eq_some_iff.1 hb
    have hi : i < 10 := by have := (List.getElem?_eq_some_iff.1 hp).1; simp at this; omega
    rw [List.getElem?_take, if_pos hi] at hp hq
    rw [List.getElem?_drop] at hq
    have gp := h.at_ i (by omega)
    have gq := h.at_ (10 + i) (by omega)
    rw [hp] at gp
    rw [hq] at gq
    have mp := List.mem_of_getElem? hp
    have mq := List.mem_of_getElem? hq
    refine pair_ge (hn _ (List.mem_map.2 ⟨p, mp, rfl⟩)) (hn _ (List.mem_map.2 ⟨q, mq, rfl⟩)) (h.small mp) (h.small mq) ?_ hk
    cases gp
    cases gq
    have e3 : st * ((10 + i : Nat) : Int) = st * 10 + st * (i : Int) := by rw [show ((10 + i : Nat) : Int) = 10 + (i : Int) by omega, Int.mul_add]
    have := h.st1
    rw [e3]
    omega
  have h2 : ((zigs (x.drop 20)).length : Int) ≤ sumSize (zigs (x.drop 20)) (k : Int) := by
    refine sumSize_ge (fun z hz => hn z ?_) hk
    rw [e]
    simp [hz]
  rw [e, sumSize_app, sumSize_app]
  simp at h1 h2
  omega
/-- The shortest frame of a line has a predictor. -/
theorem Line.best {x : List Int} {v st : Int} (h : Line x v st) (s : Nat) : ∃ i : Nat, 3 ≤ i ∧ i < 19 ∧ frm (i : Int) x s = some (bestF x s 19) ∧ ∃ D, frm 4 x s = some D ∧ (bestF x s 19).length ≤ D.length := by
  obtain ⟨D, hD, hDl⟩ := h.four s
  obtain ⟨i, h1, h2, h3⟩ := bestF_any h.may s
  have h4 := (h3 4 D (by decide) hD).1
  have hl := h.len1
  refine ⟨i, ?_, h1, h2, D, hD, h4⟩
  rcases (by omega : i = 0 ∨ i = 1 ∨ i = 2 ∨ 3 ≤ i) with rfl | rfl | rfl | hi
  · exfalso
    have h5 : frm 0 x s = some (bestF x s 19) := h2
    unfold frm at h5
    rw [if_neg (by simp [h.may]), if_pos rfl] at h5
    by_cases ha : allOne x
    · have g0 := h.at_ 0 (by omega)
      have g1 := h.at_ 1 (by omega)
      have a1 := ha _ (List.mem_of_getElem? g1)
      rw [getD_of g0] at a1
      have := h.st1
      simp at a1
      omega
    · rw [if_neg ha] at h5; cases h5
  · exfalso
    have h5 : frm 1 x s = some (bestF x s 19) := h2
    rw [frm_verb h.may] at h5
    have h6 := Option.some.inj h5
    rw [← h6] at h4
    simp at h4
    omega
  · exfalso
    have h5 : frm 2 x s = some (bestF x s 19) := h2
    rw [frm_two h.may h.zig_num] at h5
    have h6 := Option.some.inj h5
    rw [← h6] at h4
    have h7 := len_residD h.zig_num
    have h8 := h.sum (parOf_le x)
    simp at h4
    omega
  · exact hi

end Go.Proofs.Ytejgkgnocgplbaa

/- The document's example of law08. -/
namespace Go.Proofs.Ytejgkgnocgplbaa
set_option linter.unusedVariables false
set_option linter.unusedSimpArgs false
open Go.RowKit Dg

theorem shift_may (l : List Int) : ∃ s, mayX l → IsShift (autoZ l 0) s := by
  by_cases h : mayX l
  · have := autoZ_small h.2.2 h.2.1 0
    obtain ⟨s, -, hs⟩ := shift_exists (autoZ_zero l) (by omega)
    exact ⟨s, fun _ => hs⟩
  · exact ⟨0, fun h' => absurd h' h⟩
theorem encOut_may {x : List Int} (h : mayX x) (s : Nat) : encOut x s = (pack (bestF x s 19), 0) := by
  unfold encOut
  rw [if_neg (by have := h.1; have := h.2.1; omega), if_pos h.2.2]
/-- Every frame but a constant, verbatim and order 0 has at least 45 digits. -/
theorem frm_min {k : Nat} {x : List Int} {s : Nat} {D : List Bool} (h : frm (k : Int) x s = some D) (hk : 3 ≤ k) : 45 ≤ D.length := by
  unfold frm at h
  by_cases hb : ¬ mayX x ∨ (k : Int) < 0 ∨ 18 < (k : Int)
  · rw [if_pos hb] at h; cases h
  rw [if_neg hb, if_neg (by omega), if_neg (by omega)] at h
  by_cases h6 : (k : Int) ≤ 6
  · rw [if_pos h6] at h
    by_cases hl : (x.length : Int) < (k : Int) - 2
    · rw [if_pos hl] at h; cases h
    rw [if_neg hl] at h
    by_cases hz : okZ (residZ x ((k : Int) - 2).toNat)
    · rw [if_pos hz] at h
      cases h
      have := okZ_len hz
      simp at this ⊢
      omega
    · rw [if_neg hz] at h; cases h
  rw [if_neg h6] at h
  obtain ⟨⟨c, b⟩, hc⟩ : ∃ R, R = coOut x ((k : Int) - 6) s := ⟨_, rfl⟩
  rw [← hc] at h
  simp only at h
  cases b with
  | false => simp at h
  | true =>
    rw [if_pos rfl] at h
    obtain ⟨g1, g2, g3, g4, g5⟩ := coOut_true hc.symm
    by_cases hz : okZ (lresidZ x c)
    · rw [if_pos hz] at h
      cases h
      have := okZ_len hz
      simp at this ⊢
      omega
    · rw [if_neg hz] at h; cases h
theorem wake_best (s : Nat) : frm 2 [7, 7, 7] s = some (bestF [7, 7, 7] s 19) ∧ (bestF [7, 7, 7] s 19).length = 36 := by
  have hm : mayX [7, 7, 7] := by decide
  have hz : okZ [7, 7, 7] := by decide
  have e2 := frm_two hm hz s
  have e0 : frm 0 [7, 7, 7] s = some (headD 0 3 ++ sampD 7) := by
    unfold frm
    rw [if_neg (by simp [hm]), if_pos rfl, if_pos (by decide)]
    rfl
  have hl : (residD [7, 7, 7]).length = 20 := by decide +kernel
  obtain ⟨i, h1, h2, h3⟩ := bestF_any hm s
  have h4 := (h3 2 _ (by decide) e2).1
  simp [hl] at h4
  rcases (by omega : i = 0 ∨ i = 1 ∨ i = 2 ∨ 3 ≤ i) with rfl | rfl | rfl | hi
  · exfalso
    have h5 : frm 0 [7, 7, 7] s = some (bestF [7, 7, 7] s 19) := h2
    rw [e0] at h5
    have h6 := Option.some.inj h5
    rw [← h6] at h4
    simp at h4
  · exfalso
    have h5 : frm 1 [7, 7, 7] s = some (bestF [7, 7, 7] s 19) := h2
    rw [frm_verb hm] at h5
    have h6 := Option.some.inj h5
    rw [← h6] at h4
    simp at h4
  · refine ⟨h2, ?_⟩
    have h5 : frm 2 [7, 7, 7] s = some (bestF [7, 7, 7] s 19) := h2
    rw [e2] at h5
    have h6 := Option.some.inj h5
    rw [← h6]
    simp [hl]
  · have := frm_min h2 hi
    omega

end Go.Proofs.Ytejgkgnocgplbaa

/- Plain mathematics of a sum of 32 binary digits: a digit at a step, a byte at a step, bursts: no program in sight. -/
namespace Go.Proofs.Ytejgkgnocgplbaa.Cr
set_option linter.unusedVariables false
set_option linter.unusedSimpArgs false
open Dg

/-- A sum moved up by one digit. -/
def up (v : BitVec 32) : BitVec 32 := (v <<< 1) ^^^ (if v.msb then 0x04C11DB7#32 else 0#32)
/-- By n digits. -/
def upN : Nat → BitVec 32 → BitVec 32
  | 0, v => v
  | n + 1, v => upN n (up v)
/-- A byte more. -/
def stepB (v : BitVec 32) (c : Nat) : BitVec 32 := upN 8 (v ^^^ (BitVec.ofNat 32 c <<< 24))
/-- A row of bytes more. -/
def crc (v : BitVec 32) (l : List Nat) : BitVec 32 := l.foldl stepB v
/-- The sum of a row. -/
def ones : BitVec 32 := 0xFFFFFFFF#32

theorem up_zero : up 0#32 = 0#32 := by decide
theorem up_xor (a b : BitVec 32) : up (a ^^^ b) = up a ^^^ up b := by
  unfold up
  rw [BitVec.msb_xor, BitVec.shiftLeft_xor_distrib]
  cases a.msb <;> cases b.msb <;> simp
  · ac_rfl
  · ac_rfl
  · have : ∀ x y z : BitVec 32, x ^^^ z ^^^ (y ^^^ z) = x ^^^ y := fun x y z => by
      rw [BitVec.xor_assoc, BitVec.xor_comm y z, ← BitVec.xor_assoc z z y, BitVec.xor_self, BitVec.zero_xor]
    exact (this _ _ _).symm
theorem up_get0 (v : BitVec 32) : (up v).getLsbD 0 = v.msb := by
  unfold up
  rw [BitVec.getLsbD_xor, BitVec.getLsbD_shiftLeft]
  cases v.msb <;> simp
theorem up_eq_zero {v : BitVec 32} (h : up v = 0#32) : v = 0#32 := by
  have hm : v.msb = false := by rw [← up_get0, h]; simp
  have h2 : v <<< 1 = 0#32 := by unfold up at h; rw [hm] at h; simpa using h
  apply BitVec.eq_of_getLsbD_eq
  intro i hi
  by_cases h31 : i = 31
  · subst h31; rw [BitVec.msb_eq_getLsbD_last] at hm; simpa using hm
  · have h3 := congrArg (fun x => x.getLsbD (i + 1)) h2
    simp only [BitVec.getLsbD_shiftLeft] at h3
    have : i + 1 < 32 := by omega
    simpa [this] using h3
theorem upN_zero : ∀ n, upN n 0#32 = 0#32
  | 0 => rfl
  | n + 1 => by rw [upN, up_zero, upN_zero n]
theorem upN_xor : ∀ (n : Nat) (a b : BitVec 32), upN n (a ^^^ b) = upN n a ^^^ upN n b
  | 0, a, b => rfl
  | n + 1, a, b => by rw [upN, up_xor, upN_xor n]; rfl
theorem upN_eq_zero : ∀ (n : Nat) {v : BitVec 32}, upN n v = 0#32 → v = 0#32
  | 0, v, h => h
  | n + 1, v, h => up_eq_zero (upN_eq_zero n h)
theorem xor_eq_zero {a b : BitVec 32} (h : a ^^^ b = 0#32) : a = b := by
  have h1 : (a ^^^ b) ^^^ b = b := by rw [h, BitVec.zero_xor]
  rw [BitVec.xor_assoc, BitVec.xor_self, BitVec.xor_zero] at h1
  exact h1
theorem upN_inj {n : Nat} {a b : BitVec 32} (h : upN n a = upN n b) : a = b := by
  apply xor_eq_zero
  apply upN_eq_zero n
  rw [upN_xor, h, BitVec.xor_self]
theorem upN_add : ∀ (m n : Nat) (v : BitVec 32), upN n (upN m v) = upN (m + n) v
  | 0, n, v => by simp [upN]
  | m + 1, n, v => by rw [upN, upN_add m n, Nat.add_right_comm, upN]

theorem crc_nil (v : BitVec 32) : crc v [] = v := rfl
theorem crc_cons (v : BitVec 32) (c : Nat) (l : List Nat) : crc v (c :: l) = crc (stepB v c) l := rfl
theorem crc_append (v : BitVec 32) (l m : List Nat) : crc v (l ++ m) = crc (crc v l) m := by simp [crc]
theorem crc_snoc (v : BitVec 32) (l : List Nat) (c : Nat) : crc v (l ++ [c]) = stepB (crc v l) c := by simp [crc]
theorem crc_take (v : BitVec 32) (l : List Nat) (k c : Nat) (h : l[k]? = some c) : crc v (l.take (k + 1)) = stepB (crc v (l.take k)) c := by
  rw [List.take_add_one, h]; exact crc_snoc _ _ _

theorem xor_swap4 (a b c d : BitVec 32) : a ^^^ b ^^^ (c ^^^ d) = a ^^^ c ^^^ (b ^^^ d) := by
  rw [BitVec.xor_assoc, BitVec.xor_assoc, ← BitVec.xor_assoc b c d, BitVec.xor_comm b c, BitVec.xor_assoc c b d]

/-- By the table. -/
theorem low_up (w : BitVec 32) : ∀ (k : Nat), (∀ i, 32 - k ≤ i → i < 32 → w.getLsbD i = false) → k ≤ 32 → upN k w = w <<< k
  | 0, _, _ => by simp [upN]
  | k + 1, h, hk => by
    have hm : w.msb = false := by rw [BitVec.msb_eq_getLsbD_last]; simp; exact h 31 (by omega) (by omega)
    have e : up w = w <<< 1 := by unfold up; rw [hm]; simp
    rw [upN, e, low_up (w <<< 1) k]
    · rw [← BitVec.shiftLeft_add, Nat.add_comm]
    · intro i h1 h2
      rw [BitVec.getLsbD_shiftLeft]
      by_cases h0 : i < 1
      · simp [h0]
      · simp only [h2, h0, decide_true, decide_false, Bool.not_false, Bool.true_and]
        exact h (i - 1) (by omega) (by omega)
    · omega

theorem split24 (v c : BitVec 32) : v ^^^ (c <<< 24) = (((v >>> 24) ^^^ c) <<< 24) ^^^ (v &&& 0xFFFFFF#32) := by
  apply BitVec.eq_of_getLsbD_eq
  intro i hi
  have e : (0xFFFFFF#32 : BitVec 32).getLsbD i = decide (i < 24) := by
    have : ∀ j : Fin 32, (0xFFFFFF#32 : BitVec 32).getLsbD j = decide (j.val < 24) := by decide
    exact this ⟨i, hi⟩
  simp only [BitVec.getLsbD_xor, BitVec.getLsbD_shiftLeft, BitVec.getLsbD_and, BitVec.getLsbD_ushiftRight, e, hi, decide_true, Bool.true_and]
  by_cases h : i < 24
  · simp [h]
  · have e2 : 24 + (i - 24) = i := by omega
    simp [h, e2]

theorem step_table (v : BitVec 32) (c : Nat) : stepB v c = (v <<< 8) ^^^ upN 8 (((v >>> 24) ^^^ BitVec.ofNat 32 c) <<< 24) := by
  unfold stepB
  have e : (v &&& 0xFFFFFF#32) <<< 8 = v <<< 8 := by
    apply BitVec.eq_of_getLsbD_eq
    intro i hi
    have : ∀ j : Fin 32, (0xFFFFFF#32 : BitVec 32).getLsbD j = decide (j.val < 24) := by decide
    simp only [BitVec.getLsbD_shiftLeft, BitVec.getLsbD_and]
    by_cases h : i < 8
    · simp [h]
    · have := this ⟨i - 8, by omega⟩
      simp only at this
      rw [this]
      simp [show i - 8 < 24 by omega]
  rw [split24, upN_xor, low_up (v &&& 0xFFFFFF#32) 8 _ (by decide), e, BitVec.xor_comm]
  intro i h1 h2
  have : ∀ j : Fin 32, 24 ≤ j.val → (0xFFFFFF#32 : BitVec 32).getLsbD j = false := by decide
  rw [BitVec.getLsbD_and, this ⟨i, h2⟩ h1, Bool.and_false]

/-- A digit more. -/
def feed (v : BitVec 32) (d : Bool) : BitVec 32 := up (v ^^^ (if d then 0x80000000#32 else 0#32))
def feeds (v : BitVec 32) (ds : List Bool) : BitVec 32 := ds.foldl feed v
theorem feeds_append (v : BitVec 32) (ds es : List Bool) : feeds v (ds ++ es) = feeds (feeds v ds) es := by simp [feeds]
theorem feed_xor (a b : BitVec 32) (d e : Bool) : feed (a ^^^ b) (d ^^ e) = feed a d ^^^ feed b e := by
  unfold feed
  rw [← up_xor]
  congr 1
  rw [xor_swap4]
  congr 1
  cases d <;> cases e <;> decide
theorem feeds_xor : ∀ (ds es : List Bool) (a b : BitVec 32), ds.length = es.length → feeds (a ^^^ b) (List.zipWith (· ^^ ·) ds es) = feeds a ds ^^^ feeds b es
  | [], [], a, b, _ => rfl
  | [], e :: es, a, b, h => by simp at h
  | d :: ds, [], a, b, h => by simp at h
  | d :: ds, e :: es, a, b, h => by
    have h' : ds.length = es.length := by simpa using h
    show feeds (feed (a ^^^ b) (d ^^ e)) (List.zipWith (· ^^ ·) ds es) = feeds (feed a d) ds ^^^ feeds (feed b e) es
    rw [feed_xor, feeds_xor ds es _ _ h']
theorem feeds_noughts : ∀ (n : Nat) (v : BitVec 32), feeds v (List.replicate n false) = upN n v
  | 0, v => rfl
  | n + 1, v => by
    show feeds (feed v false) (List.replicate n false) = _
    rw [feeds_noughts n]; simp [feed, upN]
theorem feeds_split (v : BitVec 32) (ds : List Bool) : feeds v ds = upN ds.length v ^^^ feeds 0#32 ds := by
  have h := feeds_xor (List.replicate ds.length false) ds v 0#32 (by simp)
  rw [feeds_noughts, BitVec.xor_zero] at h
  rw [← h]
  congr 1
  apply List.ext_getElem?
  intro i
  by_cases hi : i < ds.length
  · simp [List.getElem?_zipWith, hi]
  · simp [List.getElem?_zipWith, hi]

theorem step_split (v : BitVec 32) (c : Nat) : stepB v c = upN 8 v ^^^ stepB 0#32 c := by
  unfold stepB; rw [upN_xor, BitVec.zero_xor]
theorem step_digits0 : ∀ x : Fin 256, feeds 0#32 ((List.range 8).map (digitOf x.val)) = stepB 0#32 x.val := by decide +kernel
theorem step_digits (v : BitVec 32) (x : Nat) (hx : x < 256) : feeds v ((List.range 8).map (digitOf x)) = stepB v x := by
  rw [feeds_split, step_split]
  congr 1
  exact step_digits0 ⟨x, hx⟩
theorem crc_digits : ∀ (l : List Nat) (v : BitVec 32), (∀ x ∈ l, x < 256) → crc v l = feeds v (unpack l)
  | [], v, _ => rfl
  | x :: l, v, h => by
    rw [crc_cons, unpack_cons, feeds_append, step_digits v x (h x (by simp)), crc_digits l _ (fun y hy => h y (by simp [hy]))]

/-- Digits at the top of a sum. -/
def top : List Bool → BitVec 32
  | [] => 0#32
  | d :: ds => (if d then 0x80000000#32 else 0#32) ^^^ (top ds >>> 1)
theorem top_get : ∀ (ds : List Bool) (i : Nat), i < 32 → (top ds).getLsbD i = ds.getD (31 - i) false
  | [], i, _ => by simp [top]
  | d :: ds, i, hi => by
    rw [top, BitVec.getLsbD_xor, BitVec.getLsbD_ushiftRight]
    have e : (if d then 0x80000000#32 else 0#32).getLsbD i = (decide (i = 31) && d) := by
      have : ∀ j : Fin 32, (0x80000000#32 : BitVec 32).getLsbD j = decide (j.val = 31) := by decide
      cases d
      · simp
      · simpa using this ⟨i, hi⟩
    rw [e]
    by_cases h : i = 31
    · subst h; simp
    · rw [Nat.add_comm 1 i, top_get ds (i + 1) (by omega)]
      have : 31 - i = (31 - (i + 1)) + 1 := by omega
      rw [this]
      simp [h]
theorem feeds_top : ∀ (ds : List Bool) (v : BitVec 32), ds.length ≤ 32 → feeds v ds = upN ds.length (v ^^^ top ds)
  | [], v, _ => by simp [feeds, upN, top]
  | d :: ds, v, h => by
    have hl : ds.length ≤ 31 := by simpa using h
    have e : up (top ds >>> 1) = top ds := by
      have hm : (top ds >>> 1).msb = false := by rw [BitVec.msb_eq_getLsbD_last, BitVec.getLsbD_ushiftRight]; simp
      unfold up
      rw [hm]
      apply BitVec.eq_of_getLsbD_eq
      intro i hi
      by_cases h0 : i = 0
      · subst h0
        rw [top_get ds 0 (by decide)]
        simp [List.getElem?_eq_none (show ds.length ≤ 31 from hl)]
      · have e1 : 1 + (i - 1) = i := by omega
        simp [BitVec.getLsbD_shiftLeft, BitVec.getLsbD_ushiftRight, hi, h0, e1]
    show feeds (feed v d) ds = upN ds.length (up (v ^^^ top (d :: ds)))
    rw [feeds_top ds _ (by omega)]
    congr 1
    rw [top, ← BitVec.xor_assoc, up_xor, e]
    rfl
theorem top_zero (ds : List Bool) (hl : ds.length ≤ 32) (h : top ds = 0#32) : ∀ j, ds.getD j false = false := by
  intro j
  by_cases hj : j < 32
  · have := top_get ds (31 - j) (by omega)
    rw [h, show 31 - (31 - j) = j by omega] at this
    rw [← this]; simp
  · simp [List.getD, List.getElem?_eq_none (show ds.length ≤ j by omega)]

/-- A burst is told. -/
theorem burst (a c : Nat) (bs : List Bool) (hl : bs.length ≤ 32) (j : Nat) (hj : bs.getD j false = true) :
    feeds 0#32 (List.replicate a false ++ bs ++ List.replicate c false) ≠ 0#32 := by
  intro h
  rw [feeds_append, feeds_append, feeds_noughts, feeds_noughts, upN_zero, feeds_top bs _ hl, BitVec.zero_xor] at h
  have := top_zero bs hl (upN_eq_zero _ (upN_eq_zero _ h)) j
  rw [hj] at this
  cases this

/-- A sum as four bytes, the greatest first. -/
def bytes4 (s : Nat) : List Nat := [s / 16777216 % 256, s / 65536 % 256, s / 256 % 256, s % 256]
@[simp] theorem length_bytes4 (s : Nat) : (bytes4 s).length = 4 := rfl
theorem bytes4_lt (s : Nat) : ∀ x ∈ bytes4 s, x < 256 := by
  intro x hx; simp [bytes4] at hx; omega
theorem top_bytes4 (v : BitVec 32) : top (unpack (bytes4 v.toNat)) = v := by
  apply BitVec.eq_of_getLsbD_eq
  intro i hi
  rw [top_get _ _ hi, List.getD_eq_getElem?_getD, unpack_get]
  have hd : ∀ x j, digitOf x j = x.testBit (7 - j) := fun x j => by
    rw [Nat.testBit_eq_decide_div_mod_eq]; unfold digitOf
    by_cases h : x / 2 ^ (7 - j) % 2 = 1 <;> simp [h]
  have e : v.getLsbD i = v.toNat.testBit i := rfl
  have hq : (31 - i) / 8 = 0 ∨ (31 - i) / 8 = 1 ∨ (31 - i) / 8 = 2 ∨ (31 - i) / 8 = 3 := by omega
  have p : ∀ (s k a : Nat), s / 2 ^ a % 256 = (s >>> a) % 2 ^ 8 := fun s k a => by rw [Nat.shiftRight_eq_div_pow]
  rcases hq with h | h | h | h <;> rw [h]
  · have := p v.toNat 0 24
    simp only [bytes4, List.getElem?_cons_zero, Option.map_some, Option.getD_some, hd]
    rw [show (16777216 : Nat) = 2 ^ 24 by decide, this, Nat.testBit_mod_two_pow, Nat.testBit_shiftRight, e]
    simp only [show 7 - (31 - i) % 8 < 8 by omega, decide_true, Bool.true_and]
    congr 1; omega
  · have := p v.toNat 0 16
    simp only [bytes4, List.getElem?_cons_zero, List.getElem?_cons_succ, Option.map_some, Option.getD_some, hd]
    rw [show (65536 : Nat) = 2 ^ 16 by decide, this, Nat.testBit_mod_two_pow, Nat.testBit_shiftRight, e]
    simp only [show 7 - (31 - i) % 8 < 8 by omega, decide_true, Bool.true_and]
    congr 1; omega
  · have := p v.toNat 0 8
    simp only [bytes4, List.getElem?_cons_zero, List.getElem?_cons_succ, Option.map_some, Option.getD_some, hd]
    rw [show v.toNat / 256 % 256 = v.toNat / 2 ^ 8 % 256 by rfl, this, Nat.testBit_mod_two_pow, Nat.testBit_shiftRight, e]
    simp only [show 7 - (31 - i) % 8 < 8 by omega, decide_true, Bool.true_and]
    congr 1; omega
  · simp only [bytes4, List.getElem?_cons_zero, List.getElem?_cons_succ, Option.map_some, Option.getD_some, hd]
    rw [show (256 : Nat) = 2 ^ 8 by decide, Nat.testBit_mod_two_pow, e]
    simp only [show 7 - (31 - i) % 8 < 8 by omega, decide_true, Bool.true_and]
    congr 1; omega
theorem crc_bytes4 (v s : BitVec 32) : crc v (bytes4 s.toNat) = upN 32 (v ^^^ s) := by
  rw [crc_digits _ _ (bytes4_lt _), feeds_top _ _ (by simp), top_bytes4]; rfl
/-- A row with its sum behind it has the sum 0. -/
theorem crc_whole (v : BitVec 32) (l : List Nat) : crc v (l ++ bytes4 (crc v l).toNat) = 0#32 := by
  rw [crc_append, crc_bytes4, BitVec.xor_self, upN_zero]
theorem crc_noughts : ∀ n, crc 0#32 (List.replicate n 0) = 0#32
  | 0 => rfl
  | n + 1 => by rw [List.replicate_succ, crc_cons, show stepB 0#32 0 = 0#32 by decide, crc_noughts n]

/-- One byte alone is told. -/
theorem step_inj {v : BitVec 32} {a b : Nat} (ha : a < 256) (hb : b < 256) (h : stepB v a = stepB v b) : a = b := by
  unfold stepB at h
  have h1 := upN_inj h
  have h2 : BitVec.ofNat 32 a <<< 24 = BitVec.ofNat 32 b <<< 24 := by
    have := congrArg (fun x => v ^^^ x) h1
    simpa [← BitVec.xor_assoc] using this
  have h3 := congrArg BitVec.toNat h2
  simp only [BitVec.toNat_shiftLeft, BitVec.toNat_ofNat, Nat.shiftLeft_eq] at h3
  omega
theorem step_injl {v u : BitVec 32} {c : Nat} (h : stepB v c = stepB u c) : v = u := by
  unfold stepB at h
  have h1 := upN_inj h
  have := congrArg (fun x => x ^^^ (BitVec.ofNat 32 c <<< 24)) h1
  simpa [BitVec.xor_assoc] using this
theorem crc_injl : ∀ (l : List Nat) {v u : BitVec 32}, crc v l = crc u l → v = u
  | [], v, u, h => h
  | c :: l, v, u, h => step_injl (crc_injl l h)
theorem crc_byte {v : BitVec 32} (p q : List Nat) {a b : Nat} (ha : a < 256) (hb : b < 256) (h : crc v (p ++ a :: q) = crc v (p ++ b :: q)) : a = b := by
  rw [crc_append, crc_append, crc_cons, crc_cons] at h
  exact step_inj ha hb (crc_injl q h)
theorem swap0 : ∀ x : Fin 256, upN 8 (BitVec.ofNat 32 x.val <<< 24) = BitVec.ofNat 32 x.val <<< 24 → x.val = 0 := by decide +kernel
theorem crc_swap {v : BitVec 32} (p q : List Nat) {a b : Nat} (ha : a < 256) (hb : b < 256) (h : crc v (p ++ a :: b :: q) = crc v (p ++ b :: a :: q)) : a = b := by
  simp only [crc_append, crc_cons] at h
  have h1 := crc_injl q h
  generalize crc v p = s at h1
  have h2 : stepB s a ^^^ (BitVec.ofNat 32 b <<< 24) = stepB s b ^^^ (BitVec.ofNat 32 a <<< 24) := upN_inj h1
  unfold stepB at h2
  rw [upN_xor, upN_xor] at h2
  have hd : a ^^^ b < 256 := Nat.xor_lt_two_pow (n := 8) ha hb
  have e : BitVec.ofNat 32 (a ^^^ b) <<< 24 = (BitVec.ofNat 32 a <<< 24) ^^^ (BitVec.ofNat 32 b <<< 24) := by
    rw [← BitVec.shiftLeft_xor_distrib]
    congr 1
    apply BitVec.eq_of_toNat_eq
    simp only [BitVec.toNat_xor, BitVec.toNat_ofNat]
    rw [Nat.mod_eq_of_lt (show a ^^^ b < 2 ^ 32 by omega), Nat.mod_eq_of_lt (show a < 2 ^ 32 by omega), Nat.mod_eq_of_lt (show b < 2 ^ 32 by omega)]
  have h3 := swap0 ⟨a ^^^ b, hd⟩ (by
    show upN 8 (BitVec.ofNat 32 (a ^^^ b) <<< 24) = BitVec.ofNat 32 (a ^^^ b) <<< 24
    rw [e, upN_xor]
    generalize upN 8 (BitVec.ofNat 32 a <<< 24) = A at h2 ⊢
    generalize upN 8 (BitVec.ofNat 32 b <<< 24) = B at h2 ⊢
    generalize BitVec.ofNat 32 a <<< 24 = x at h2 ⊢
    generalize BitVec.ofNat 32 b <<< 24 = y at h2 ⊢
    generalize upN 8 s = S at h2
    apply BitVec.eq_of_getLsbD_eq
    intro i hi
    have h5 := congrArg (fun z => z.getLsbD i) h2
    simp only [BitVec.getLsbD_xor] at h5 ⊢
    revert h5
    cases A.getLsbD i <;> cases B.getLsbD i <;> cases x.getLsbD i <;> cases y.getLsbD i <;> cases S.getLsbD i <;> decide)
  have h4 : a ^^^ b = 0 := h3
  apply Nat.eq_of_testBit_eq
  intro i
  have := congrArg (fun x => x.testBit i) h4
  simpa [Nat.testBit_xor] using this

end Go.Proofs.Ytejgkgnocgplbaa.Cr
