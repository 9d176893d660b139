/- The document's own Decode. -/
import Derived.Test.YtlonnoapbfjomaaFrm6
namespace Go.Proofs.Ytlonnoapbfjomaa
set_option linter.unusedVariables false
set_option linter.unusedSimpArgs false
open Go.RowKit Dg

theorem left_zero (l : List Nat) : left l 0 = unpack l := by simp [left]
def outOf (o : Option (List Int)) : List Int × Int := match o with | none => ([], 2) | some x => (x, 0)
theorem decOut_of (l : List Nat) : decOut 2 l = outOf (decD (unpack l)) := by unfold decOut outOf; rfl
/-- All that is behind the samples that a frame begins with. -/
def finT (K n : Nat) (q : List Int × List Bool) : Option (List Int) := (bodyT K n q.1 q.2).bind fun y => if noOnes y.2 = true then some y.1 else none
def badHead (K n : Nat) : Prop := 18 < K ∨ n < 1 ∨ 64 < n ∨ n < ordOf K n ∨ (6 < K ∧ n ≤ ordOf K n)
theorem decD_at {l : List Nat} {K n : Nat} (h1 : takeD (left l 0) 8 = some (K, left l 8)) (h2 : takeD (left l 8) 8 = some (n, left l 16)) (hg : ¬ badHead K n) : decD (unpack l) = (sampsT (ordOf K n) (left l 16)).bind (finT K n) := by
  rw [← left_zero]
  unfold decD
  rw [h1]
  simp only [Option.bind_some]
  rw [h2]
  simp only [Option.bind_some]
  unfold badHead at hg
  rw [if_neg hg]
  rfl
theorem decD_badhead {l : List Nat} {K n : Nat} (h1 : takeD (left l 0) 8 = some (K, left l 8)) (h2 : takeD (left l 8) 8 = some (n, left l 16)) (hg : badHead K n) : decD (unpack l) = none := by
  rw [← left_zero]
  unfold decD
  rw [h1]
  simp only [Option.bind_some]
  rw [h2]
  simp only [Option.bind_some]
  unfold badHead at hg
  rw [if_pos hg]
theorem decD_short {l : List Nat} (h : takeD (left l 0) 8 = none ∨ ∃ K, takeD (left l 0) 8 = some (K, left l 8) ∧ takeD (left l 8) 8 = none) : decD (unpack l) = none := by
  rw [← left_zero]
  unfold decD
  rcases h with h | ⟨K, h1, h2⟩
  · rw [h]; rfl
  · rw [h1]
    simp only [Option.bind_some]
    rw [h2]
    rfl
theorem takeD_left {l : List Nat} {p n : Nat} (hn : n ≤ 62) (h : n ≤ (left l p).length) : ∃ z, z < 2 ^ n ∧ takeD (left l p) n = some (z, left l (p + n)) ∧ getOut (left l p) (n : Int) = (z, n, true) := by
  obtain ⟨e1, e2⟩ := takeD_some hn h
  exact ⟨_, num_small _ _, by rw [left_drop]; exact e1, e2⟩
theorem zagOf_small (z : Int) : -1099511627776 ≤ zagOf z ∧ zagOf z ≤ 1099511627776 := by
  unfold zagOf
  split
  · omega
  · split <;> omega
theorem ricesT_i64 (k : Nat) : ∀ (n : Nat) (ds : List Bool) (q : List Int × List Bool), ricesT k n ds = some q → (∀ x ∈ q.1, I64 x) ∧ q.1.length = n := by
  intro n
  induction n with
  | zero =>
    intro ds q h
    simp [ricesT] at h
    subst h
    exact ⟨fun x hx => by simp at hx, rfl⟩
  | succ n ih =>
    intro ds q h
    rw [ricesT] at h
    split at h
    · obtain ⟨q', h1, rfl⟩ := Option.map_eq_some_iff.1 h
      obtain ⟨g1, g2⟩ := ih _ _ h1
      refine ⟨fun x hx => ?_, by simp [g2]⟩
      rcases List.mem_cons.1 hx with rfl | hx
      · have := zagOf_small ((riceOut ds (k : Int)).1 : Nat)
        unfold I64
        omega
      · exact g1 x hx
    · cases h
theorem resT_i64 {n : Nat} {ds : List Bool} {q : List Int × List Bool} (h : resT n ds = some q) : (∀ x ∈ q.1, I64 x) ∧ q.1.length = n := by
  unfold resT at h
  obtain ⟨r, -, h2⟩ := Option.bind_eq_some_iff.1 h
  split at h2
  · cases h2
  · exact ricesT_i64 _ _ _ _ h2
theorem sampsT_len : ∀ (n : Nat) (ds : List Bool) (q : List Int × List Bool), sampsT n ds = some q → q.1.length = n := by
  intro n
  induction n with
  | zero => intro ds q h; simp [sampsT] at h; subst h; rfl
  | succ n ih =>
    intro ds q h
    rw [sampsT] at h
    obtain ⟨r, -, h2⟩ := Option.bind_eq_some_iff.1 h
    obtain ⟨q', h3, rfl⟩ := Option.map_eq_some_iff.1 h2
    simp [ih _ _ h3]
theorem finT_verb (n : Nat) (xs : List Int) (r : List Bool) : finT 1 n (xs, r) = if noOnes r = true then some xs else none := by
  unfold finT bodyT
  rw [if_neg (by decide), if_pos rfl]
  rfl
theorem finT_const (n : Nat) (xs : List Int) (r : List Bool) : finT 0 n (xs, r) = if noOnes r = true then some (List.replicate n (xs.getD 0 0)) else none := by
  unfold finT bodyT
  rw [if_pos rfl]
  rfl
theorem left_short (l : List Nat) (p : Nat) (h : l.length ≤ 1000000) : (left l p).length ≤ 4398046511104 := by rw [left_len]; omega

end Go.Proofs.Ytlonnoapbfjomaa
