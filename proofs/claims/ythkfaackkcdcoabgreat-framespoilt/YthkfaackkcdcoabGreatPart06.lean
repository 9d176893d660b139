/- The texts Rice7, Rice2, Rice3, Rice9, LevMath, IntsC, one behind the other. -/
import Derived.Test.YthkfaackkcdcoabGreatPart04
import Derived.Test.YthkfaackkcdcoabGreatPart05
import Derived.Test.YthkfaackkcdcoabGreatPart02
import Derived.Laws.AppendOwnNone

/- Get of package rice. -/
namespace Go.Proofs.YthkfaackkcdcoabGreat
set_option linter.unusedVariables false
set_option linter.unusedSimpArgs false
open Go.RowKit Dg

/-- The next number: it, how many digits it takes, whether there is one. -/
def riceOut (ds : List Bool) (k : Int) : Nat × Nat × Bool :=
  if isPar k = true then
    if (onesOut ds 24).2.2 = true then
      if (onesOut ds 24).1 = 24 then
        if (getOut (ds.drop 24) 32).2.2 = true ∧ 24 ≤ (getOut (ds.drop 24) 32).1 / 2 ^ k.toNat then ((getOut (ds.drop 24) 32).1, 24 + 32, true) else (0, 0, false)
      else
        if (getOut (ds.drop ((onesOut ds 24).1 + 1)) k).2.2 = true then ((onesOut ds 24).1 * 2 ^ k.toNat + (getOut (ds.drop ((onesOut ds 24).1 + 1)) k).1, (onesOut ds 24).1 + 1 + k.toNat, true) else (0, 0, false)
    else (0, 0, false)
  else (0, 0, false)

theorem onesOut_cases (ds : List Bool) : onesOut ds 24 = (0, 0, false) ∨ onesOut ds 24 = (24, 24, true) ∨ ∃ c, c < 24 ∧ onesOut ds 24 = (c, c + 1, true) := by
  have h := lead_le ds 24
  have e : onesOut ds 24 = if lead ds 24 = 24 then (24, 24, true) else if lead ds 24 = ds.length then (0, 0, false) else (lead ds 24, lead ds 24 + 1, true) := by
    unfold onesOut
    rw [if_pos (by decide)]
    rfl
  rw [e]
  by_cases h1 : lead ds 24 = 24
  · rw [if_pos h1]; exact .inr (.inl rfl)
  · rw [if_neg h1]
    by_cases h2 : lead ds 24 = ds.length
    · rw [if_pos h2]; exact .inl rfl
    · rw [if_neg h2]; exact .inr (.inr ⟨lead ds 24, by omega, rfl⟩)

theorem getOut_cases (ds : List Bool) (n : Nat) : (getOut ds n = (0, 0, false)) ∨ ∃ v, v < 2 ^ n ∧ n ≤ ds.length ∧ getOut ds n = (v, n, true) := by
  unfold getOut
  by_cases h : 0 ≤ (n : Int) ∧ (n : Int) ≤ 62 ∧ (n : Int) ≤ ds.length
  · rw [if_pos h]
    refine .inr ⟨num (ds.take n), ?_, by omega, rfl⟩
    have := num_lt (ds.take n)
    rwa [List.length_take, Nat.min_eq_left (by omega)] at this
  · rw [if_neg h]; exact .inl rfl

theorem or_i64 (q v m : Nat) (hv : v < 2 ^ m) (hq : q < 24) (hm : m ≤ 24) (X : Int) (hX : X = ((q * 2 ^ m : Nat) : Int)) : bits BinOp.or IntKind.i64 X (v : Int) = ((q * 2 ^ m + v : Nat) : Int) := by
  have hp : 2 ^ m ≤ 2 ^ 24 := Nat.pow_le_pow_right (by decide) hm
  have hp2 : (2 : Nat) ^ 24 = 16777216 := by decide
  have hqm : q * 2 ^ m ≤ 24 * 16777216 := Nat.mul_le_mul (by omega) (by omega)
  subst hX
  show IntKind.i64.wrap ((BitVec.ofInt 64 ((q * 2 ^ m : Nat) : Int) ||| BitVec.ofInt 64 ((v : Nat) : Int)).toNat : Int) = _
  rw [BitVec.toNat_or, ofInt_u64 (q * 2 ^ m) (by omega), ofInt_u64 v (by omega), Nat.mul_comm q, ← Nat.two_pow_add_eq_or_of_lt hv]
  have hw : ∀ n : Nat, n < 9223372036854775808 → IntKind.i64.wrap ((n : Nat) : Int) = (n : Int) := by
    intro n hn
    simp [IntKind.wrap, IntKind.bits, IntKind.signed]
    omega
  exact hw _ (by rw [Nat.mul_comm]; omega)

theorem riceOut_false (ds : List Bool) (k : Int) (h : (riceOut ds k).2.2 = false) : riceOut ds k = (0, 0, false) := by
  unfold riceOut at h ⊢
  split at h
  · rename_i h1
    rw [if_pos h1]
    split at h
    · rename_i h2
      rw [if_pos h2]
      split at h
      · rename_i h3
        rw [if_pos h3]
        split at h
        · cases h
        · rename_i h4; rw [if_neg h4]
      · rename_i h3
        rw [if_neg h3]
        split at h
        · cases h
        · rename_i h4; rw [if_neg h4]
    · rename_i h2; rw [if_neg h2]
  · rename_i h1; rw [if_neg h1]

theorem wrap64_qk (q m : Nat) (hq : q < 24) (hm : m ≤ 24) : wrap64 ((q : Int) * 2 ^ m) = ((q * 2 ^ m : Nat) : Int) := by
  have hp : 2 ^ m ≤ 2 ^ 24 := Nat.pow_le_pow_right (by decide) hm
  have hp2 : (2 : Nat) ^ 24 = 16777216 := by decide
  have hqm : q * 2 ^ m ≤ 24 * 16777216 := Nat.mul_le_mul (by omega) (by omega)
  have e : ((q : Int) * 2 ^ m) = ((q * 2 ^ m : Nat) : Int) := by push_cast; rfl
  rw [e]
  generalize q * 2 ^ m = X at hqm ⊢
  unfold wrap64
  omega

set_option maxHeartbeats 2000000 in
theorem next_all (w : World) (b : Nat) (rv : Value) (l : List Nat) (at_ : Nat) (k : Nat) (h : RdAt w b rv l at_) (hk : k ≤ 24) (o : Nat × Nat × Bool) (ho : riceOut (left l at_) k = o) :
    Calls Tryz.prog 106 #[.pointer (some ⟨b, 0, none⟩), .int .i64 k] w fun e w' => ∃ (v : Int) (t : Nat), e = .returned (.tuple #[.int .i64 v, .bool o.2.2]) ∧ RdAt w' b rv l t ∧ Kept (fun i => i = b) w w' ∧ (o.2.2 = true → v = (o.1 : Nat) ∧ t = at_ + o.2.1) := by
  have HR : Hid (RdAt w b rv l at_) := h
  have hp : isPar (k : Int) = true := by simp [isPar]; omega
  rcases onesOut_cases (left l at_) with h1 | h1 | ⟨q, hq, h1⟩
  · have e : o = (0, 0, false) := by rw [← ho]; simp [riceOut, hp, h1]
    subst e
    have H1 : Hid (onesOut (left l at_) 24 = (0, 0, false)) := h1
    clear h hp h1 ho
    go_enter Tryz.func106, Tryz.ntmps106
    go_wp2_with fail
    refine (rones_all' w b rv l at_ 24 HR.out _ H1.out).mono ?_
    rintro e w1 ⟨rfl, hr1, hk1⟩
    have HR1 : Hid (RdAt w1 b rv l (at_ + 0)) := hr1
    have HK1 : Hid (Kept (fun i => i = b) w w1) := hk1
    clear hr1 hk1
    go_wp2
    go_ret2
    exact ⟨_, _, rfl, HR1.out, HK1.out, fun h => by cases h⟩
  · have H1 : Hid (onesOut (left l at_) 24 = (24, 24, true)) := h1
    have hd : (left l at_).drop 24 = left l (at_ + 24) := (left_drop l at_ 24).symm
    rcases getOut_cases (left l (at_ + 24)) 32 with h2 | ⟨z, hz, hz2, h2⟩
    · have h2' : getOut (left l (at_ + 24)) 32 = (0, 0, false) := h2
      have e : o = (0, 0, false) := by rw [← ho]; simp [riceOut, hp, h1, hd, h2']
      subst e
      have H2 : Hid (getOut (left l (at_ + 24)) 32 = (0, 0, false)) := h2'
      clear h hp h1 ho h2 h2' hd
      go_enter Tryz.func106, Tryz.ntmps106
      go_wp2_with fail
      refine (rones_all' w b rv l at_ 24 HR.out _ H1.out).mono ?_
      rintro e w1 ⟨rfl, hr1, hk1⟩
      have HR1 : Hid (RdAt w1 b rv l (at_ + 24)) := hr1
      have HK1 : Hid (Kept (fun i => i = b) w w1) := hk1
      clear hr1 hk1
      go_wp2_with fail
      refine (get_all' w1 b rv l (at_ + 24) 32 HR1.out _ H2.out).mono ?_
      rintro e w2 ⟨rfl, hr2, hk2⟩
      have HR2 : Hid (RdAt w2 b rv l (at_ + 24 + 0)) := hr2
      have HK2 : Hid (Kept (fun i => i = b) w w2) := HK1.out.trans hk2
      clear hr2 hk2
      go_wp2
      go_ret2
      exact ⟨_, _, rfl, HR2.out, HK2.out, fun h => by cases h⟩
    · have h2' : getOut (left l (at_ + 24)) 32 = (z, 32, true) := h2
      have hz32 : z < 4294967296 := hz
      have HO : Hid (o = if 24 ≤ z / 2 ^ k then (z, 56, true) else (0, 0, false)) := by
        show _ = _
        rw [← ho]; simp [riceOut, hp, h1, hd, h2']
      have H2 : Hid (getOut (left l (at_ + 24)) 32 = (z, 32, true)) := h2'
      obtain ⟨r, hr⟩ : ∃ r, r = isRawOf (z : Int) k := ⟨_, rfl⟩
      have HRW : Hid (r = isRawOf (z : Int) k) := hr
      have hrd : o.2.2 = r ∧ (r = true → o = (z, 56, true)) := by
        have hcast : (24 ≤ z / 2 ^ k) ↔ ((24 : Int) ≤ (z : Int) / 2 ^ k) := by
          rw [← pow_cast]
          omega
        rw [HO.out, hr]
        by_cases hc : 24 ≤ z / 2 ^ k
        · rw [if_pos hc]; exact ⟨by simp [isRawOf]; exact hcast.1 hc, fun _ => rfl⟩
        · rw [if_neg hc]
          have hcf : isRawOf (z : Int) k = false := by
            simp only [isRawOf, decide_eq_false_iff_not]
            exact fun hx => hc (hcast.2 hx)
          exact ⟨by rw [hcf], fun hx => by rw [hcf] at hx; cases hx⟩
      obtain ⟨ho1, ho2⟩ := hrd
      have HO2 : Hid (r = true → o = (z, 56, true)) := ho2
      rw [ho1]
      clear h hp h1 ho h2 h2' hd hr ho2 HO hz ho1
      go_enter Tryz.func106, Tryz.ntmps106
      go_wp2_with fail
      refine (rones_all' w b rv l at_ 24 HR.out _ H1.out).mono ?_
      rintro e w1 ⟨rfl, hr1, hk1⟩
      have HR1 : Hid (RdAt w1 b rv l (at_ + 24)) := hr1
      have HK1 : Hid (Kept (fun i => i = b) w w1) := hk1
      clear hr1 hk1
      go_wp2_with fail
      refine (get_all' w1 b rv l (at_ + 24) 32 HR1.out _ H2.out).mono ?_
      rintro e w2 ⟨rfl, hr2, hk2⟩
      have HR2 : Hid (RdAt w2 b rv l (at_ + 24 + 32)) := hr2
      have HK2 : Hid (Kept (fun i => i = b) w w2) := HK1.out.trans hk2
      clear hr2 hk2
      go_wp2_with (go_at_call 100; refine (isRaw_any z k _ (by omega) (by omega) (by omega)).mono ?_; rw [← HRW.out]; rintro e w3 ⟨rfl, rfl⟩)
      go_ret2
      exact ⟨_, _, rfl, HR2.out, HK2.out, fun h => by rw [HO2.out h]; exact ⟨rfl, rfl⟩⟩
  · have H1 : Hid (onesOut (left l at_) 24 = (q, q + 1, true)) := h1
    have hd : (left l at_).drop (q + 1) = left l (at_ + (q + 1)) := (left_drop l at_ (q + 1)).symm
    have hq24 : ((q : Int) == 24) = false := by simp; omega
    have hqne : ¬ q = 24 := by omega
    rcases getOut_cases (left l (at_ + (q + 1))) k with h2 | ⟨z, hz, hz2, h2⟩
    · have e : o = (0, 0, false) := by rw [← ho]; simp [riceOut, hp, h1, hd, h2, hqne]
      subst e
      have H2 : Hid (getOut (left l (at_ + (q + 1))) k = (0, 0, false)) := h2
      clear h hp h1 ho h2 hd
      go_enter Tryz.func106, Tryz.ntmps106
      go_wp2_with fail
      refine (rones_all' w b rv l at_ 24 HR.out _ H1.out).mono ?_
      rintro e w1 ⟨rfl, hr1, hk1⟩
      have HR1 : Hid (RdAt w1 b rv l (at_ + (q + 1))) := hr1
      have HK1 : Hid (Kept (fun i => i = b) w w1) := hk1
      clear hr1 hk1
      go_wp2_with fail
      refine (get_all' w1 b rv l (at_ + (q + 1)) k HR1.out _ H2.out).mono ?_
      rintro e w2 ⟨rfl, hr2, hk2⟩
      have HR2 : Hid (RdAt w2 b rv l (at_ + (q + 1) + 0)) := hr2
      have HK2 : Hid (Kept (fun i => i = b) w w2) := HK1.out.trans hk2
      clear hr2 hk2
      go_wp2
      go_ret2
      exact ⟨_, _, rfl, HR2.out, HK2.out, fun h => by cases h⟩
    · have e : o = (q * 2 ^ k + z, q + 1 + k, true) := by rw [← ho]; simp [riceOut, hp, h1, hd, h2, hqne]
      subst e
      have H2 : Hid (getOut (left l (at_ + (q + 1))) k = (z, k, true)) := h2
      have HZ : Hid (bits BinOp.or IntKind.i64 (wrap64 ((q : Int) * 2 ^ k)) (z : Int) = ((q * 2 ^ k + z : Nat) : Int)) := or_i64 q z k hz hq hk _ (wrap64_qk q k hq hk)
      clear h hp h1 ho h2 hd hz hz2
      go_enter Tryz.func106, Tryz.ntmps106
      go_wp2_with fail
      refine (rones_all' w b rv l at_ 24 HR.out _ H1.out).mono ?_
      rintro e w1 ⟨rfl, hr1, hk1⟩
      have HR1 : Hid (RdAt w1 b rv l (at_ + (q + 1))) := hr1
      have HK1 : Hid (Kept (fun i => i = b) w w1) := hk1
      clear hr1 hk1
      go_wp2_with fail
      refine (get_all' w1 b rv l (at_ + (q + 1)) k HR1.out _ H2.out).mono ?_
      rintro e w2 ⟨rfl, hr2, hk2⟩
      have HR2 : Hid (RdAt w2 b rv l (at_ + (q + 1) + k)) := hr2
      have HK2 : Hid (Kept (fun i => i = b) w w2) := HK1.out.trans hk2
      clear hr2 hk2
      go_wp2
      go_ret2
      exact ⟨_, _, rfl, HR2.out, HK2.out, fun h => ⟨HZ.out, by show at_ + (q + 1) + k = at_ + (q + 1 + k); omega⟩⟩

theorem rd_store {w : World} {b : Nat} {rv : Value} {l : List Nat} {k : Nat} (h : RdAt w b rv l k) (t : Nat) (ht : t ≤ 8 * l.length) : RdAt ((w.setCell ⟨b, 0, none⟩ rv).setCell ⟨b, 1, none⟩ (.int .i64 (t : Nat))) b rv l t := by
  have hk : Kept (fun i => i = b) w ((w.setCell ⟨b, 0, none⟩ rv).setCell ⟨b, 1, none⟩ (.int .i64 (t : Nat))) := (Kept.setCell (F := fun i => i = b) w ⟨b, 0, none⟩ _ rfl).trans (Kept.setCell (F := fun i => i = b) _ ⟨b, 1, none⟩ _ rfl)
  refine ⟨?_, h.row.kept hk (fun i hi e => h.ne (e ▸ hi)), ht, h.ne, h.byte, h.small⟩
  have h1 := heap_setCell_of (o := 0) h.box rv
  have h2 := heap_setCell_of (o := 1) h1 (.int .i64 (t : Nat))
  rw [h2]
  rfl

set_option maxHeartbeats 2000000 in
theorem riceGet_all (w : World) (b : Nat) (rv : Value) (l : List Nat) (at_ : Nat) (k : Int) (h : RdAt w b rv l at_) (hlt : ∀ i, rv.ownBlock = some i → i < w.heap.size) (o : Nat × Nat × Bool) (ho : riceOut (left l at_) k = o) :
    Calls Tryz.prog 95 #[.pointer (some ⟨b, 0, none⟩), .int .i64 k] w fun e w' => e = .returned (.tuple #[.int .i64 (o.1 : Nat), .bool o.2.2]) ∧ RdAt w' b rv l (at_ + o.2.1) ∧ Kept (fun i => i = b) w w' := by
  cases hp : isPar k with
  | false =>
    have e : o = (0, 0, false) := by rw [← ho]; simp [riceOut, hp]
    subst e
    have HP : Hid (isPar k = false) := hp
    have HR : Hid (RdAt w b rv l at_) := h
    clear hp h ho
    go_enter Tryz.func95, Tryz.ntmps95
    go_wp2_with (go_at_call 99; refine (isParameter_any k w).mono ?_; rw [HP.out]; rintro e w2 ⟨rfl, rfl⟩)
    go_ret2
    exact ⟨rfl, HR.out, Kept.refl _ _⟩
  | true =>
    obtain ⟨hk1, hk2⟩ := isPar_true hp
    obtain ⟨kk, rfl⟩ := Int.eq_ofNat_of_zero_le hk1
    obtain ⟨ao, cp, rfl, _⟩ := id h.row
    have HP : Hid (isPar (kk : Int) = true) := hp
    have HR : Hid (RdAt w b (.slice ao l.length cp) l at_) := h
    have HO : Hid (riceOut (left l at_) (kk : Int) = o) := ho
    have hb0 : w.cell? ⟨b, 0, none⟩ = some (.slice ao l.length cp) := by simp [World.cell?, h.box]
    have hb1 : w.cell? ⟨b, 1, none⟩ = some (.int .i64 (at_ : Nat)) := by simp [World.cell?, h.box]
    have hbl : b < w.heap.size := h.lt
    have HLT : Hid (∀ i, (Value.slice ao l.length cp).ownBlock = some i → i < w.heap.size) := hlt
    clear hp h ho hlt
    go_enter Tryz.func95, Tryz.ntmps95
    go_wp2_with first
      | (go_at_call 99; refine (isParameter_any kk w).mono ?_; rw [HP.out]; rintro e w2 ⟨rfl, rfl⟩)
      | fail
    have HRC : Hid (RdAt (w.alloc (.cells #[.slice ao l.length cp, .int .i64 (at_ : Nat)] 83)) w.heap.size (.slice ao l.length cp) l at_) := by
      have hr := HR.out
      refine ⟨heap_alloc_new w _, hr.row.below ((Below.refl _ _).alloc (Nat.le_refl _) _), hr.le, ?_, hr.byte, hr.small⟩
      intro e
      have := HLT.out _ e
      omega
    refine (next_all _ w.heap.size (.slice ao l.length cp) l at_ kk HRC.out (by omega) o HO.out).mono ?_
    rintro e w1 ⟨v, t, rfl, hr1, hkp1, hok⟩
    have HR1 : Hid (RdAt w1 w.heap.size (.slice ao l.length cp) l t) := hr1
    have hk1 : Kept (fun i => i = b) w w1 := (Kept.alloc (fun i => i = b) w _).trans' (hkp1.mono (G := fun i => i = w.heap.size) (fun i _ h => h)) (fun i hi h => by omega)
    have HR2 : Hid (RdAt w1 b (.slice ao l.length cp) l at_) := (HR.out.below ((Below.refl _ _).alloc (Nat.le_refl _) _)).kept hkp1 (by omega) (fun i hi => by have := HLT.out i hi; omega)
    have HK1 : Hid (Kept (fun i => i = b) w w1) := hk1
    have HF : Hid (o.2.2 = false → o = (0, 0, false)) := fun h => by have := HO.out; subst this; exact riceOut_false _ _ h
    have HOK : Hid (o.2.2 = true → v = (o.1 : Nat) ∧ t = at_ + o.2.1) := hok
    have hc0 : w1.cell? ⟨w.heap.size, 0, none⟩ = some (.slice ao l.length cp) := by simp [World.cell?, hr1.box]
    have hc1 : w1.cell? ⟨w.heap.size, 1, none⟩ = some (.int .i64 (t : Nat)) := by simp [World.cell?, hr1.box]
    have hd0 : w1.cell? ⟨b, 0, none⟩ = some (.slice ao l.length cp) := by simp [World.cell?, HR2.out.box]
    have hd1 : w1.cell? ⟨b, 1, none⟩ = some (.int .i64 (at_ : Nat)) := by simp [World.cell?, HR2.out.box]
    have hf0 : w1.frozen? ⟨b, 0, none⟩ = false := by simp [World.frozen?, HR2.out.box]
    have hf1 : w1.frozen? ⟨b, 1, none⟩ = false := by simp [World.frozen?, HR2.out.box]
    obtain ⟨g, hg⟩ : ∃ g, g = w.heap.size := ⟨_, rfl⟩
    have hgb : g ≠ b := by omega
    rw [← hg] at hc0 hc1 ⊢
    clear hb0 hb1 hg hr1 hkp1 hk1 hok
    obtain ⟨o1, o2, ok⟩ := o
    simp only at HF HOK ⊢
    cases ok with
    | false =>
      have e := HF.out rfl
      cases e
      go_wp2
      go_ret2
      exact ⟨rfl, HR2.out, HK1.out⟩
    | true =>
      obtain ⟨rfl, rfl⟩ := HOK.out rfl
      have hle := HR1.out.le
      go_wp2
      go_ret2
      have ec : ((at_ : Int) + (o2 : Int)) = ((at_ + o2 : Nat) : Int) := by push_cast; rfl
      rw [ec]
      exact ⟨rfl, rd_store HR2.out _ hle, (HK1.out.trans (Kept.setCell (F := fun i => i = b) w1 ⟨b, 0, none⟩ _ rfl)).trans (Kept.setCell (F := fun i => i = b) _ ⟨b, 1, none⟩ _ rfl)⟩

end Go.Proofs.YthkfaackkcdcoabGreat

/- Numbers in a row that can be read; sizes, Best. -/
namespace Go.Proofs.YthkfaackkcdcoabGreat
set_option linter.unusedVariables false
set_option linter.unusedSimpArgs false
open Go.RowKit Dg

theorem sizeOf1_bounds (z k : Int) : 0 ≤ sizeOf1 z k ∧ sizeOf1 z k ≤ 56 := by
  unfold sizeOf1
  split
  · rename_i h
    obtain ⟨h1, h2⟩ := h
    have := isNum_true h1
    have := isPar_true h2
    have := quot_le z k.toNat (by omega)
    unfold sizeIn
    split <;> omega
  · omega

/-- All sizes together. -/
def sumSize (l : List Int) (k : Int) : Int := (l.map fun z => sizeOf1 z k).sum
theorem sumSize_bounds (l : List Int) (k : Int) : 0 ≤ sumSize l k ∧ sumSize l k ≤ 56 * l.length := by
  induction l with
  | nil => simp [sumSize]
  | cons x l ih =>
    have := sizeOf1_bounds x k
    simp only [sumSize, List.map_cons, List.sum_cons, List.length_cons] at ih ⊢
    omega
theorem sumSize_take (l : List Int) (k : Int) (j : Nat) (x : Int) (h : l[j]? = some x) : sumSize (l.take (j + 1)) k = sumSize (l.take j) k + sizeOf1 x k := by
  rw [List.take_add_one, h]
  simp [sumSize]

set_option maxHeartbeats 1000000 in
theorem sizes_any (w : World) (a : Option Addr) (cap : Nat) (l : List Int) (k : Int) (h : IntsAt w a l) (hl : l.length ≤ 4096) (s : Int) (HS : Hid (s = sumSize l k)) :
    Calls Tryz.prog 98 #[.int .i64 k, .slice a l.length cap] w fun e w' => e = .returned (.int .i64 s) ∧ w = w' := by
  have HI : Hid (IntsAt w a l) := h
  clear h
  go_enter Tryz.func98, Tryz.ntmps98
  go_wp2
  go_loopw [5, 10] (fun s i wr => ∃ (j : Nat) (t : Int), i = .int .i64 (j : Int) ∧ s = .int .i64 t ∧ j ≤ l.length ∧ Hid (t = sumSize (l.take j) k) ∧ 0 ≤ t ∧ t ≤ 56 * j ∧ w = wr) (fun s i _ => l.length - (intOf i).toNat)
  case atStart => exact ⟨0, 0, rfl, rfl, Nat.zero_le _, rfl, by decide, by decide, rfl⟩
  case round =>
    obtain ⟨j, t, rfl, rfl, hj, ht, ht0, ht1, rfl⟩ := hrel
    by_cases hjn : j < l.length
    · obtain ⟨x, hx⟩ : ∃ x, l[j]? = some x := ⟨l[j], by simp [hjn]⟩
      obtain ⟨b, off, rfl, hc⟩ := HI.out j x hx
      obtain ⟨sz, hsz⟩ : ∃ sz, sz = sizeOf1 x k := ⟨_, rfl⟩
      have hb := sizeOf1_bounds x k
      rw [← hsz] at hb
      obtain ⟨hb1, hb2⟩ := hb
      have HSZ : Hid (sz = sizeOf1 x k) := hsz
      have HX : Hid (l[j]? = some x) := hx
      clear hx hsz HI
      go_wp2_with (go_at_call 107; refine (size_any x k _).mono ?_; rw [← HSZ.out]; rintro e w2 ⟨rfl, rfl⟩)
      go_roundw
      case rel => exact ⟨j + 1, t + sz, by go_num, rfl, by omega, by show _ = _; rw [sumSize_take l k j x HX.out, ← ht.out, ← HSZ.out], by omega, by omega, by trivial⟩
      case measure => simp [intOf]; omega
    · go_wp2
      go_ret
      have e : j = l.length := by omega
      have e2 := ht.out
      rw [e, List.take_length, ← HS.out] at e2
      exact ⟨by rw [← e2]; rfl, rfl⟩

/-- The best parameter up to j, and the size of all with it. -/
def bestTo (l : List Int) : Nat → Nat × Int
  | 0 => (0, sumSize l 0)
  | j + 1 => if sumSize l ((j + 1 : Nat) : Int) < (bestTo l j).2 then (j + 1, sumSize l ((j + 1 : Nat) : Int)) else bestTo l j
theorem bestTo_le (l : List Int) (j : Nat) : (bestTo l j).1 ≤ j := by
  induction j with
  | zero => exact Nat.le_refl _
  | succ j ih => unfold bestTo; split <;> first | omega | (simp only; omega) | (show j + 1 ≤ j + 1; omega)
theorem bestTo_size (l : List Int) (j : Nat) : (bestTo l j).2 = sumSize l ((bestTo l j).1 : Nat) := by
  induction j with
  | zero => rfl
  | succ j ih => unfold bestTo; split <;> simp [*]
theorem bestTo_least (l : List Int) (j p : Nat) (hp : p ≤ j) : (bestTo l j).2 ≤ sumSize l (p : Int) ∧ (p < (bestTo l j).1 → (bestTo l j).2 < sumSize l (p : Int)) := by
  induction j with
  | zero =>
    have : p = 0 := by omega
    subst this
    exact ⟨Int.le_refl _, fun h => by simp [bestTo] at h⟩
  | succ j ih =>
    unfold bestTo
    by_cases h : sumSize l ((j + 1 : Nat) : Int) < (bestTo l j).2
    · rw [if_pos h]
      by_cases hpj : p = j + 1
      · subst hpj; exact ⟨Int.le_refl _, fun h => by simp at h⟩
      · have := (ih (by omega)).1
        exact ⟨by simp only; omega, fun _ => by simp only; omega⟩
    · rw [if_neg h]
      by_cases hpj : p = j + 1
      · subst hpj
        have := bestTo_le l j
        exact ⟨by omega, fun h => by omega⟩
      · exact ih (by omega)
theorem bestTo_bounds (l : List Int) (j : Nat) : 0 ≤ (bestTo l j).2 ∧ (bestTo l j).2 ≤ 56 * l.length := by
  rw [bestTo_size]; exact sumSize_bounds l _

set_option maxHeartbeats 1000000 in
theorem best_bad (w : World) (a : Option Addr) (cap : Nat) (l : List Int) (h : IntsAt w a l) (hl : l.length ≤ 4096) (hbad : ∃ x ∈ l, isNum x = false) :
    Calls Tryz.prog 85 #[.slice a l.length cap] w fun e w' => e = .returned (.tuple #[.int .i64 0, .int .i64 0]) ∧ w = w' := by
  have HI : Hid (IntsAt w a l) := h
  have HB : Hid (∃ x ∈ l, isNum x = false) := hbad
  clear h hbad
  go_enter Tryz.func85, Tryz.ntmps85
  go_wp2
  go_loopw [10] (fun i wr => ∃ (j : Nat), i = .int .i64 (j : Int) ∧ j ≤ l.length ∧ Hid (∀ x ∈ l.take j, isNum x = true) ∧ w = wr) (fun i _ => l.length - (intOf i).toNat)
  case atStart => exact ⟨0, rfl, Nat.zero_le _, by intro x hx; simp at hx, rfl⟩
  case round =>
    obtain ⟨j, rfl, hj, ht, rfl⟩ := hrel
    by_cases hjn : j < l.length
    · obtain ⟨x, hx⟩ : ∃ x, l[j]? = some x := ⟨l[j], by simp [hjn]⟩
      obtain ⟨b, off, rfl, hc⟩ := HI.out j x hx
      have HX : Hid (l[j]? = some x) := hx
      clear hx HI
      by_cases hn : isNum x = true
      · have HN : Hid (isNum x = true) := hn
        clear hn
        go_wp2_with (go_at_call 97; refine (isNumber_any x _).mono ?_; rw [HN.out]; rintro e w2 ⟨rfl, rfl⟩)
        go_roundw
        case rel =>
          refine ⟨j + 1, by go_num, by omega, ?_, by trivial⟩
          intro y hy
          rw [List.take_add_one, HX.out] at hy
          rcases List.mem_append.1 hy with h1 | h1
          · exact ht.out y h1
          · simp at h1; subst h1; exact HN.out
        case measure => simp [intOf]; omega
      · have HN : Hid (isNum x = false) := by show _ = _; simpa using hn
        clear hn
        go_wp2_with (go_at_call 97; refine (isNumber_any x _).mono ?_; rw [HN.out]; rintro e w2 ⟨rfl, rfl⟩)
        go_ret2
        exact ⟨rfl, rfl⟩
    · exfalso
      obtain ⟨x, hx, hf⟩ := HB.out
      have := ht.out x (by rw [List.take_of_length_le (by omega)]; exact hx)
      rw [this] at hf
      cases hf

set_option maxHeartbeats 2000000 in
theorem best_all (w : World) (a : Option Addr) (cap : Nat) (l : List Int) (h : IntsAt w a l) (hl : l.length ≤ 4096) (hall : ∀ x ∈ l, isNum x = true) (bk : Nat) (bs : Int) (HR : Hid (bestTo l 24 = (bk, bs))) :
    Calls Tryz.prog 85 #[.slice a l.length cap] w fun e w' => e = .returned (.tuple #[.int .i64 bk, .int .i64 bs]) ∧ w = w' := by
  have HI : Hid (IntsAt w a l) := h
  have HB : Hid (∀ x ∈ l, isNum x = true) := hall
  clear h hall
  go_enter Tryz.func85, Tryz.ntmps85
  go_wp2
  go_loopw [2, 10] (fun k0 i wr => ∃ (j : Nat), k0 = .int .i64 0 ∧ i = .int .i64 (j : Int) ∧ j ≤ l.length ∧ w = wr) (fun _ i _ => l.length - (intOf i).toNat)
  case atStart => exact ⟨0, rfl, rfl, Nat.zero_le _, rfl⟩
  case round =>
    obtain ⟨j, rfl, rfl, hj, rfl⟩ := hrel
    by_cases hjn : j < l.length
    · obtain ⟨x, hx⟩ : ∃ x, l[j]? = some x := ⟨l[j], by simp [hjn]⟩
      obtain ⟨b, off, rfl, hc⟩ := HI.out j x hx
      have HN : Hid (isNum x = true) := HB.out x (List.mem_of_getElem? hx)
      clear hx HI HB
      go_wp2_with (go_at_call 97; refine (isNumber_any x _).mono ?_; rw [HN.out]; rintro e w2 ⟨rfl, rfl⟩)
      go_roundw
      case rel => exact ⟨j + 1, rfl, by go_num, by omega, by trivial⟩
      case measure => simp [intOf]; omega
    · obtain ⟨s0, hs0⟩ : ∃ s, s = sumSize l 0 := ⟨_, rfl⟩
      have HS0 : Hid (s0 = sumSize l 0) := hs0
      clear hs0
      go_wp2_with (go_at_call 98; refine (sizes_any _ a cap l 0 HI.out hl s0 HS0).mono ?_; rintro e w2 ⟨rfl, rfl⟩)
      go_loopw [2, 3, 6] (fun bk s i wr => ∃ (j p : Nat) (t : Int), i = .int .i64 ((j : Int) + 1) ∧ bk = .int .i64 (p : Int) ∧ s = .int .i64 t ∧ j ≤ 24 ∧ Hid (bestTo l j = (p, t)) ∧ w = wr) (fun bk s i _ => 25 - (intOf i).toNat)
      case atStart => exact ⟨0, 0, s0, rfl, rfl, rfl, Nat.zero_le _, by show _ = _; rw [HS0.out]; rfl, rfl⟩
      case round =>
        obtain ⟨j, p, t, rfl, rfl, rfl, hj, ht, rfl⟩ := hrel
        by_cases hj24 : j < 24
        · obtain ⟨s1, hs1⟩ : ∃ s, s = sumSize l ((j : Int) + 1) := ⟨_, rfl⟩
          have HS1 : Hid (s1 = sumSize l ((j : Int) + 1)) := hs1
          have e1 : bestTo l (j + 1) = if s1 < t then (j + 1, s1) else (p, t) := by
            have e : ((j + 1 : Nat) : Int) = (j : Int) + 1 := by omega
            rw [bestTo, ht.out, e, ← hs1]
          have E1 : Hid (bestTo l (j + 1) = if s1 < t then (j + 1, s1) else (p, t)) := e1
          clear hs1 e1
          by_cases hlt : s1 < t
          · go_wp2_with (go_at_call 98; refine (sizes_any _ a cap l _ HI.out hl s1 HS1).mono ?_; rintro e w2 ⟨rfl, rfl⟩)
            go_roundw
            case rel => exact ⟨j + 1, j + 1, s1, by go_num, by go_num, rfl, by omega, by show _ = _; rw [E1.out, if_pos hlt], by trivial⟩
            case measure => simp [intOf]; omega
          · go_wp2_with (go_at_call 98; refine (sizes_any _ a cap l _ HI.out hl s1 HS1).mono ?_; rintro e w2 ⟨rfl, rfl⟩)
            go_roundw
            case rel => exact ⟨j + 1, p, t, by go_num, rfl, rfl, by omega, by show _ = _; rw [E1.out, if_neg (by omega)], by trivial⟩
            case measure => simp [intOf]; omega
        · have e : j = 24 := by omega
          have e2 := ht.out
          rw [e, HR.out] at e2
          cases e2
          go_wp2
          go_ret2
          exact ⟨rfl, rfl⟩

end Go.Proofs.YthkfaackkcdcoabGreat

/- Rows of numbers that the call owns: Copy, an append of one number. -/
namespace Go.Proofs.YthkfaackkcdcoabGreat
set_option linter.unusedVariables false
set_option linter.unusedSimpArgs false
open Go.RowKit Dg

end Go.Proofs.YthkfaackkcdcoabGreat

/- What is put is got again: the digits; a writer beside a row of numbers. -/
namespace Go.Proofs.YthkfaackkcdcoabGreat
set_option linter.unusedVariables false
set_option linter.unusedSimpArgs false
open Go.RowKit Dg

theorem lead_replicate (q m : Nat) (ds : List Bool) (h : q < m) : lead (List.replicate q true ++ (false :: ds)) m = q := by
  induction q generalizing m with
  | zero => cases m with
    | zero => omega
    | succ m => rfl
  | succ q ih => cases m with
    | zero => omega
    | succ m => simp only [List.replicate_succ, List.cons_append, lead]; rw [ih m (by omega)]
theorem lead_full (m : Nat) (ds : List Bool) : lead (List.replicate m true ++ ds) m = m := by
  induction m with
  | zero => cases ds <;> rfl
  | succ m ih => simp only [List.replicate_succ, List.cons_append, lead]; rw [ih]

theorem getOut_app (es fs : List Bool) (n : Nat) (hn : n ≤ 62) (hl : es.length = n) : getOut (es ++ fs) n = (num es, n, true) := by
  unfold getOut
  rw [if_pos ⟨by omega, by omega, by simp; omega⟩]
  have e : ((n : Nat) : Int).toNat = n := by omega
  rw [e, List.take_left' hl]

theorem num_dig_nat (y : Int) (n : Nat) : ((num (dig y n) : Nat) : Int) = y % 2 ^ n := num_dig y n

/-- What was put with a parameter is got with it. -/
theorem riceOut_dig (y : Int) (k : Nat) (rest : List Bool) (hy0 : 0 ≤ y) (hy : y < 4294967296) (hk : k ≤ 24) : riceOut (riceDig y k ++ rest) k = (y.toNat, (riceDig y k).length, true) := by
  have hp : isPar (k : Int) = true := by simp [isPar]; omega
  have hkn : ((k : Nat) : Int).toNat = k := by omega
  have hq0 := quot_le y k hy0
  have ep : ((2 : Int) ^ k) = ((2 ^ k : Nat) : Int) := (pow_cast k).symm
  by_cases hr : 24 ≤ y / 2 ^ k
  · have e1 : riceDig y k = List.replicate 24 true ++ dig y 32 := by simp only [riceDig]; rw [if_pos hr]
    have eo : onesOut (riceDig y k ++ rest) 24 = (24, 24, true) := by
      unfold onesOut
      rw [if_pos (by decide)]
      have : lead (riceDig y k ++ rest) 24 = 24 := by rw [e1, List.append_assoc]; exact lead_full 24 _
      exact if_pos this
    have ed : (riceDig y k ++ rest).drop 24 = dig y 32 ++ rest := by rw [e1, List.append_assoc]; exact List.drop_left' (by simp)
    have eg : getOut (dig y 32 ++ rest) 32 = (num (dig y 32), 32, true) := getOut_app (dig y 32) rest 32 (by decide) (by simp)
    have en : num (dig y 32) = y.toNat := by
      have h1 := num_dig y 32
      have : y % 2 ^ 32 = y := Int.emod_eq_of_lt hy0 hy
      omega
    have hc : 24 ≤ y.toNat / 2 ^ k := by
      rw [ep] at hr
      have : y = (y.toNat : Int) := by omega
      rw [this] at hr
      exact_mod_cast hr
    have el : (riceDig y k).length = 56 := by rw [e1]; simp
    unfold riceOut
    rw [if_pos hp, eo]
    simp only [if_true, ed, eg, en, hkn, hc, and_self, el]
  · have e1 : riceDig y k = (List.replicate (y / 2 ^ k).toNat true ++ [false]) ++ dig y k := by simp only [riceDig]; rw [if_neg hr]
    obtain ⟨q, hq⟩ : ∃ q : Nat, q = (y / 2 ^ k).toNat := ⟨_, rfl⟩
    have hqi : y / 2 ^ k = (q : Int) := by omega
    rw [← hq] at e1
    have hq24 : q < 24 := by omega
    have ec : riceDig y k ++ rest = List.replicate q true ++ (false :: (dig y k ++ rest)) := by rw [e1]; simp
    have hlead : lead (riceDig y k ++ rest) 24 = q := by rw [ec]; exact lead_replicate q 24 _ hq24
    have hlen : ¬ q = (riceDig y k ++ rest).length := by rw [ec]; simp
    have eo : onesOut (riceDig y k ++ rest) 24 = (q, q + 1, true) := by
      unfold onesOut
      rw [if_pos (by decide)]
      show (if lead (riceDig y k ++ rest) 24 = 24 then _ else if lead (riceDig y k ++ rest) 24 = (riceDig y k ++ rest).length then _ else (lead (riceDig y k ++ rest) 24, lead (riceDig y k ++ rest) 24 + 1, true)) = _
      rw [hlead, if_neg (by omega), if_neg hlen]
    have ed : (riceDig y k ++ rest).drop (q + 1) = dig y k ++ rest := by
      have : riceDig y k ++ rest = (List.replicate q true ++ [false]) ++ (dig y k ++ rest) := by rw [e1]; simp
      rw [this]
      exact List.drop_left' (by simp)
    have eg : getOut (dig y k ++ rest) k = (num (dig y k), k, true) := getOut_app (dig y k) rest k (by omega) (by simp)
    have en : q * 2 ^ k + num (dig y k) = y.toNat := by
      have h1 := num_dig y k
      have h2 := Int.mul_ediv_add_emod y (2 ^ k)
      rw [hqi, ← h1, ep] at h2
      generalize num (dig y k) = N at h2 ⊢
      have h3 : ((q * 2 ^ k + N : Nat) : Int) = y := by
        rw [← h2, Nat.mul_comm]; push_cast; rfl
      omega
    have el : (riceDig y k).length = q + 1 + k := by rw [e1]; simp; omega
    unfold riceOut
    rw [if_pos hp, eo]
    simp only [if_true, ed, eg, hkn, el, en]
    rw [if_neg (by omega)]

/-- The digits of numbers, one behind the other. -/
def digs (l : List Int) (k : Nat) : List Bool := (l.map fun y => riceDig y k).flatten
theorem digs_snoc (l : List Int) (k : Nat) (y : Int) : digs (l ++ [y]) k = digs l k ++ riceDig y k := by simp [digs]
theorem digs_app (l m : List Int) (k : Nat) : digs (l ++ m) k = digs l k ++ digs m k := by simp [digs]
theorem digs_cons (y : Int) (l : List Int) (k : Nat) : digs (y :: l) k = riceDig y k ++ digs l k := by simp [digs]
theorem length_digs (l : List Int) (k : Nat) (h : ∀ x ∈ l, isNum x = true) (hk : k ≤ 24) : ((digs l k).length : Int) = sumSize l k ∧ (digs l k).length ≤ 56 * l.length := by
  induction l with
  | nil => simp [digs, sumSize]
  | cons y l ih =>
    have hy := h y (by simp)
    have ih' := ih (fun x hx => h x (by simp [hx]))
    have h1 := length_riceDig y k (isNum_true hy).1
    have h2 := length_riceDig_le y k (isNum_true hy).1 hk
    have hp : isPar (k : Int) = true := by simp [isPar]; omega
    have e : sumSize (y :: l) k = sizeIn y k + sumSize l k := by
      simp [sumSize, sizeOf1, hy, hp]
    rw [digs_cons, e]
    simp only [List.length_append, List.length_cons]
    omega

/-- What is ahead of a reader behind the first j numbers. -/
theorem left_digs (zs : List Int) (k j : Nat) (y : Int) (l : List Nat) (hl : l = pack (digs zs k)) (hj : zs[j]? = some y) :
    ∃ rest, left l (digs (zs.take j) k).length = riceDig y k ++ rest := by
  have hs : zs = zs.take j ++ (y :: zs.drop (j + 1)) := by
    have hlt : j < zs.length := (List.getElem?_eq_some_iff.1 hj).1
    have := List.take_append_drop j zs
    rw [List.drop_eq_getElem_cons hlt] at this
    have e : zs[j] = y := (List.getElem?_eq_some_iff.1 hj).2
    rw [e] at this
    exact this.symm
  obtain ⟨p, hp⟩ : ∃ p, unpack l = digs zs k ++ p := ⟨_, by rw [hl, unpack_pack]⟩
  have h2 : digs zs k = digs (zs.take j) k ++ (riceDig y k ++ digs (zs.drop (j + 1)) k) := by
    rw [← digs_cons, ← digs_app, ← hs]
  refine ⟨digs (zs.drop (j + 1)) k ++ p, ?_⟩
  unfold left
  rw [hp, h2, List.append_assoc, List.drop_left, List.append_assoc]

/-- A writer beside a row of numbers. -/
structure BackAt (W wr : World) (b : Nat) (rv v : Value) (ds : List Bool) (zs : List Int) : Prop where
  wt : WrAt wr b rv ds
  own : OwnInts wr W.heap.size v zs
  ap : ∀ i, v.ownBlock = some i → ¬ Wf b rv i
  bel : Below W.heap.size W wr

theorem BackAt.wrote {W wr w2 : World} {b : Nat} {rv v : Value} {ds ds2 : List Bool} {zs : List Int} (h : BackAt W wr b rv v ds zs) (hb : W.heap.size ≤ b) (hw : Wrote wr w2 b rv ds2) : ∃ rv2, BackAt W w2 b rv2 v ds2 zs := by
  obtain ⟨rv2, hw2, hk2, hn2⟩ := hw
  have hfoot := h.wt.foot
  refine ⟨rv2, hw2, ownsRow_other h.own hk2 h.ap, fun i hi hf => ?_, hk2.below_of h.bel (fun k hk => ?_) ?_⟩
  · rcases hf with rfl | hf
    · exact h.ap _ hi (Or.inl rfl)
    · rcases hn2 i hf with h2 | h2
      · exact h.ap i hi (Or.inr h2)
      · have := (World.ownsRow.lt h.own i hi).2; omega
  · have := (hfoot k hk).1; omega
  · have := h.wt.lt; omega

/-- 'append(z, n)' of one number that was just built, beside a writer. -/
theorem wpList_append_back {P : Program} (W w0 : World) {ops : Array Oper} {rest : List Oper} {o : Oper} {a : Act} {Q : Exit → Act → World → Prop}
    (hgd : o.guard = none) (s x : Operand) (t : TypeId) (ho : o.op = .call { callee := .builtin .append, args := #[s, x], argTypes := #[t, t] })
    (i : TypeInfo) (ht : P.underlying t = some (.slice 3)) (hi : P.info? 3 = some i) (hz : i.zero = some (.int .i64 0)) (hsize : i.size = 1) (hby : i.bytes = 8)
    (b : Nat) (rv v : Value) (ds : List Bool) (l : List Int) (hs : a.eval s = v) (hbk : BackAt W w0 b rv v ds l) (hbW : W.heap.size ≤ b) (y : Int) (hx : a.eval x = .slice (some ⟨w0.heap.size, 0, none⟩) 1 1)
    (hl : l.length ≤ 1000000)
    (h : ∀ v' w', Hid (BackAt W w' b rv v' ds (l ++ [y])) → wpList P ops Q rest (a.put o.dst v') w') : wpList P ops Q (o :: rest) a (w0.alloc (.cells #[.int .i64 y] 3)) := by
  have hsz : W.heap.size ≤ w0.heap.size := hbk.bel.size
  refine wpList_append_mine _ hgd s x t ho W.heap.size 3 i (.int .i64 0) 1 8 ht hi hz hsize hby rfl (by decide) v l.length (i64s l) hs (World.ownsRow.alloc hbk.own _) ⟨w0.heap.size, 0, none⟩ 1 1 [.int .i64 y] hx rfl ?c1 ?c2 (by decide) ?b1 ?b2 ?b3 ?_
  case c1 => intro j u hj; match j, hj with | 0, hj => simp at hj; subst hj; simp [Addr.add]
  case c2 => intro u hu; simp at hu; subst hu; rfl
  case b1 => unfold maxLen; omega
  case b2 => omega
  case b3 => simp; omega
  intro g cap w' H1 HG HN
  have hka : Kept (fun i => v.ownBlock = some i) w0 w' := (Kept.alloc _ w0 _).trans (Kept.grown HG.out)
  refine h _ w' ⟨hbk.wt.other hka (fun k hk hv => hbk.ap k hv hk), ?_, ?_, ?_⟩
  · show World.ownsRow _ _ _ _ _ _ _
    have := H1.out
    simpa [i64s] using this
  · intro i hi hf
    simp [Value.ownBlock] at hi
    subst hi
    rcases HN.out with h2 | h2
    · exact hbk.ap _ h2 hf
    · have := (hbk.wt.foot _ hf).2
      simp at h2
      omega
  · exact (hbk.bel.alloc hsz _).grown HG.out (by simp; omega) (fun k hk => (World.ownsRow.lt hbk.own k hk).1)

end Go.Proofs.YthkfaackkcdcoabGreat

/- Sums of products, numbers made small, Levinson's steps in whole numbers; no program. -/
namespace Go.Proofs.YthkfaackkcdcoabGreat
set_option linter.unusedVariables false
set_option linter.unusedSimpArgs false
open Go.RowKit Dg

/-- The first products of samples that lie k apart. -/
def corr (x : List Int) (k : Nat) : Nat → Int
  | 0 => 0
  | m + 1 => corr x k m + x.getD (k + m) 0 * x.getD m 0
def autoZ (x : List Int) (k : Nat) : Int := corr x k (x.length - k)
def autoL (x : List Int) (n : Nat) : List Int := (List.range n).map (autoZ x)
@[simp] theorem length_autoL (x : List Int) (n : Nat) : (autoL x n).length = n := by simp [autoL]
theorem autoL_get (x : List Int) {n k : Nat} (h : k < n) : (autoL x n)[k]? = some (autoZ x k) := by
  unfold autoL
  rw [List.getElem?_map, List.getElem?_range h]
  rfl
theorem autoL_getD (x : List Int) {n k : Nat} (h : k < n) : (autoL x n).getD k 0 = autoZ x k := getD_of (autoL_get x h)
theorem autoL_next (x : List Int) (n : Nat) : autoL x (n + 1) = autoL x n ++ [autoZ x n] := by
  unfold autoL
  rw [List.range_succ, List.map_append]
  rfl
/-- What Auto answers: the sums, and how it ends. -/
def autoOut (x : List Int) (lags : Int) : List Int × Int :=
  if lags < 0 ∨ 12 < lags then ([], 1) else if allS x then (if 64 < x.length then ([], 4) else (autoL x (lags.toNat + 1), 0)) else ([], 8)
theorem allS.atD {l : List Int} (h : allS l) (k : Nat) : isS (l.getD k 0) := by
  by_cases hk : k < l.length
  · exact h.at hk
  · rw [List.getD, List.getElem?_eq_none (by omega)]
    exact ⟨by decide, by decide⟩
theorem mul_s {a b : Int} (ha : isS a) (hb : isS b) : -70368744177664 ≤ a * b ∧ a * b ≤ 70368744177664 := by
  obtain ⟨h1, h2⟩ := ha
  obtain ⟨h3, h4⟩ := hb
  have a1 : 0 ≤ (a + 8388608) * (b + 8388608) := Int.mul_nonneg (by omega) (by omega)
  have a2 : 0 ≤ (a + 8388608) * (8388608 - b) := Int.mul_nonneg (by omega) (by omega)
  have a3 : 0 ≤ (8388608 - a) * (b + 8388608) := Int.mul_nonneg (by omega) (by omega)
  have a4 : 0 ≤ (8388608 - a) * (8388608 - b) := Int.mul_nonneg (by omega) (by omega)
  constructor <;> grind
theorem corr_small {x : List Int} (h : allS x) (k m : Nat) : -70368744177664 * (m : Int) ≤ corr x k m ∧ corr x k m ≤ 70368744177664 * (m : Int) := by
  induction m with
  | zero => simp [corr]
  | succ m ih =>
    have := mul_s (h.atD (k + m)) (h.atD m)
    simp only [corr]
    omega
theorem sq_nn (a : Int) : 0 ≤ a * a := by
  rcases Int.le_total 0 a with h | h
  · exact Int.mul_nonneg h h
  · exact Int.mul_nonneg_of_nonpos_of_nonpos h h
theorem sq_le (a b : Int) : 2 * (a * b) ≤ a * a + b * b ∧ -(2 * (a * b)) ≤ a * a + b * b := by
  have h1 := sq_nn (a - b)
  have h2 := sq_nn (a + b)
  constructor <;> grind
theorem corr_pair (x : List Int) (k m : Nat) : 2 * corr x k m ≤ corr x 0 (k + m) - corr x 0 k + corr x 0 m ∧ -(2 * corr x k m) ≤ corr x 0 (k + m) - corr x 0 k + corr x 0 m := by
  induction m with
  | zero => simp [corr]
  | succ m ih =>
    have := sq_le (x.getD (k + m) 0) (x.getD m 0)
    have e : k + (m + 1) = (k + m) + 1 := by omega
    rw [e]
    simp only [corr, Nat.zero_add]
    omega
theorem corr_mono (x : List Int) (m d : Nat) : corr x 0 m ≤ corr x 0 (m + d) := by
  induction d with
  | zero => exact Int.le_refl _
  | succ d ih =>
    have e : m + (d + 1) = (m + d) + 1 := by omega
    rw [e]
    simp only [corr, Nat.zero_add]
    have := sq_nn (x.getD (m + d) 0)
    omega
theorem autoZ_le (x : List Int) (k : Nat) : -autoZ x 0 ≤ autoZ x k ∧ autoZ x k ≤ autoZ x 0 := by
  unfold autoZ
  by_cases hk : k ≤ x.length
  · have h1 := corr_pair x k (x.length - k)
    have h2 := corr_mono x (x.length - k) k
    have h3 := corr_mono x 0 k
    have e1 : k + (x.length - k) = x.length := by omega
    have e2 : x.length - k + k = x.length := by omega
    rw [e1] at h1
    rw [e2] at h2
    rw [Nat.zero_add] at h3
    have e3 : corr x 0 0 = 0 := rfl
    rw [Nat.sub_zero]
    omega
  · have e : x.length - k = 0 := by omega
    have h3 := corr_mono x 0 x.length
    rw [Nat.zero_add] at h3
    have e3 : corr x 0 0 = 0 := rfl
    rw [e, Nat.sub_zero]
    simp only [corr] at *
    omega
theorem autoZ_small {x : List Int} (h : allS x) (hl : x.length ≤ 64) (k : Nat) : -4503599627370496 ≤ autoZ x k ∧ autoZ x k ≤ 4503599627370496 := by
  have := corr_small h k (x.length - k)
  unfold autoZ
  omega
theorem autoZ_zero (x : List Int) : 0 ≤ autoZ x 0 := by have := autoZ_le x 0; omega

/-- Numbers that are small enough for Scaled. -/
def isB (x : Int) : Prop := -1152921504606846976 ≤ x ∧ x ≤ 1152921504606846976
instance (x : Int) : Decidable (isB x) := by unfold isB; infer_instance
def allB (l : List Int) : Prop := ∀ x ∈ l, isB x
instance (l : List Int) : Decidable (allB l) := by unfold allB; infer_instance
theorem allB.snoc {l : List Int} (h : allB l) {x : Int} (hx : isB x) : allB (l ++ [x]) := by
  intro y hy
  rcases List.mem_append.1 hy with h1 | h1
  · exact h y h1
  · simp at h1; subst h1; exact hx
theorem allB.at {l : List Int} (h : allB l) {k : Nat} (hk : k < l.length) : isB (l.getD k 0) := by
  have e : l[k]? = some l[k] := by simp [hk]
  rw [getD_of e]
  exact h _ (List.getElem_mem hk)
/-- The least power of two that brings a number below 2^30. -/
def IsShift (n : Int) (s : Nat) : Prop := n / 2 ^ s < 1073741824 ∧ ∀ t, t < s → 1073741824 ≤ n / 2 ^ t
theorem least (p : Nat → Prop) [DecidablePred p] (n : Nat) : (∃ s, s ≤ n ∧ p s) → ∃ s, s ≤ n ∧ p s ∧ ∀ t, t < s → ¬ p t := by
  induction n with
  | zero =>
    rintro ⟨s, h1, h2⟩
    have : s = 0 := by omega
    subst this
    exact ⟨0, Nat.le_refl _, h2, fun t ht => by omega⟩
  | succ n ih =>
    rintro ⟨s, h1, h2⟩
    by_cases h : ∃ s, s ≤ n ∧ p s
    · obtain ⟨s, h3, h4, h5⟩ := ih h
      exact ⟨s, by omega, h4, h5⟩
    · exact ⟨s, h1, h2, fun t ht hp => h ⟨t, by omega, hp⟩⟩
theorem shift_exists {n : Int} (h0 : 0 ≤ n) (h : n ≤ 1152921504606846976) : ∃ s, s ≤ 31 ∧ IsShift n s := by
  obtain ⟨s, h1, h2, h3⟩ := least (fun s => n / 2 ^ s < 1073741824) 31 ⟨31, Nat.le_refl _, by
    show n / 2 ^ 31 < 1073741824
    omega⟩
  exact ⟨s, h1, h2, fun t ht => by have := h3 t ht; omega⟩
theorem shift_le {n : Int} {s : Nat} (h : n ≤ 1152921504606846976) (hs : IsShift n s) : s ≤ 31 := by
  by_cases hk : s ≤ 31
  · exact hk
  · have := hs.2 31 (by omega)
    omega
theorem shift_one {n : Int} {s t : Nat} (hs : IsShift n s) (ht : IsShift n t) : s = t := by
  rcases Nat.lt_trichotomy s t with h | h | h
  · have h1 := ht.2 s h
    have h2 := hs.1
    omega
  · exact h
  · have h1 := hs.2 t h
    have h2 := ht.1
    omega
theorem shift_zero {n : Int} {s : Nat} (hs : IsShift n s) (h : n < 1073741824) : s = 0 := shift_one hs ⟨by simpa using h, fun t ht => by omega⟩
def scaleL (r : List Int) (s : Nat) : List Int := r.map fun v => v / 2 ^ s
@[simp] theorem length_scaleL (r : List Int) (s : Nat) : (scaleL r s).length = r.length := by simp [scaleL]
theorem scaleL_get {r : List Int} {s k : Nat} {x : Int} (h : r[k]? = some x) : (scaleL r s)[k]? = some (x / 2 ^ s) := by
  unfold scaleL
  rw [List.getElem?_map, h]
  rfl
/-- May there be an answer of Scaled? -/
def isR (r : List Int) : Prop := 0 < r.length ∧ 0 ≤ r.getD 0 0 ∧ allB r
instance (l : List Int) : Decidable (isR l) := by unfold isR; infer_instance
def scOut (r : List Int) (s : Nat) : List Int × Int := if isR r then (scaleL r s, (s : Int)) else ([], 0)
theorem div_pow_small {n m : Int} {s : Nat} (h0 : -n ≤ m) (h1 : m ≤ n) (hs : n / 2 ^ s < 1073741824) : -1073741824 ≤ m / 2 ^ s ∧ m / 2 ^ s < 1073741824 := by
  have hp : (0 : Int) < 2 ^ s := Int.pow_pos (by decide)
  have h2 : n < 1073741824 * 2 ^ s := (Int.ediv_lt_iff_lt_mul hp).1 hs
  constructor
  · rw [Int.le_ediv_iff_mul_le hp]
    omega
  · rw [Int.ediv_lt_iff_lt_mul hp]
    omega
theorem div_pow_any {m : Int} {s : Nat} (h : isB m) : isB (m / 2 ^ s) := by
  have hp : (1 : Int) ≤ 2 ^ s := Int.pow_pos (by decide)
  obtain ⟨h1, h2⟩ := h
  unfold isB
  constructor
  · rw [Int.le_ediv_iff_mul_le (by omega)]
    have := Int.mul_le_mul_of_nonneg_left hp (show (0 : Int) ≤ 1152921504606846976 by decide)
    omega
  · rw [← Int.lt_add_one_iff, Int.ediv_lt_iff_lt_mul (by omega)]
    have := Int.mul_le_mul_of_nonneg_left hp (show (0 : Int) ≤ 1152921504606846977 by decide)
    omega

/-- What a step divides: the first terms of it. -/
def numTo (r a : List Int) : Nat → Int
  | 0 => r.getD (a.length + 1) 0 * 4096
  | j + 1 => numTo r a j - a.getD j 0 * r.getD (a.length - j) 0
def kOf (r a : List Int) (e : Int) : Int := min (max (numTo r a a.length / e) (-4095)) 4095
theorem kOf_small (r a : List Int) (e : Int) : -4095 ≤ kOf r a e ∧ kOf r a e ≤ 4095 := by unfold kOf; omega
/-- The coefficients behind a step. -/
def turnL (a : List Int) (k : Int) : List Int := (List.range a.length).map fun j => a.getD j 0 - k * a.getD (a.length - 1 - j) 0 / 4096
@[simp] theorem length_turnL (a : List Int) (k : Int) : (turnL a k).length = a.length := by simp [turnL]
theorem turnL_get (a : List Int) (k : Int) {j : Nat} (h : j < a.length) : (turnL a k)[j]? = some (a.getD j 0 - k * a.getD (a.length - 1 - j) 0 / 4096) := by
  unfold turnL
  rw [List.getElem?_map, List.getElem?_range h]
  rfl
def eNext (k e : Int) : Int := e - k * k / 4096 * e / 4096
def lev (r : List Int) : Nat → List Int × Int
  | 0 => ([], r.getD 0 0)
  | i + 1 => (turnL (lev r i).1 (kOf r (lev r i).1 (lev r i).2) ++ [kOf r (lev r i).1 (lev r i).2], eNext (kOf r (lev r i).1 (lev r i).2) (lev r i).2)
@[simp] theorem length_lev (r : List Int) (i : Nat) : (lev r i).1.length = i := by
  induction i with
  | zero => rfl
  | succ i ih => simp [lev, ih]
theorem kk_small {k : Int} (h1 : -4095 ≤ k) (h2 : k ≤ 4095) : 0 ≤ k * k ∧ k * k ≤ 16769025 := by
  have a1 : 0 ≤ (k + 4095) * (4095 - k) := Int.mul_nonneg (by omega) (by omega)
  have a2 := sq_nn k
  constructor <;> grind
theorem qe_small {q e : Int} (h1 : 0 ≤ q) (h2 : q ≤ 4094) (he : 1 ≤ e) : 0 ≤ q * e ∧ q * e ≤ 4094 * e := by
  exact ⟨Int.mul_nonneg h1 (by omega), Int.mul_le_mul_of_nonneg_right h2 (by omega)⟩
theorem eNext_small {k e : Int} (h1 : -4095 ≤ k) (h2 : k ≤ 4095) (he : 1 ≤ e) : 1 ≤ eNext k e ∧ eNext k e ≤ e := by
  have hk := kk_small h1 h2
  have hq := qe_small (q := k * k / 4096) (e := e) (by omega) (by omega) he
  unfold eNext
  omega
theorem ka_small {k a M : Int} (h1 : -4095 ≤ k) (h2 : k ≤ 4095) (h3 : -M ≤ a) (h4 : a ≤ M) : -(4095 * M) ≤ k * a ∧ k * a ≤ 4095 * M := by
  have a1 : 0 ≤ (k + 4095) * (a + M) := Int.mul_nonneg (by omega) (by omega)
  have a2 : 0 ≤ (k + 4095) * (M - a) := Int.mul_nonneg (by omega) (by omega)
  have a3 : 0 ≤ (4095 - k) * (a + M) := Int.mul_nonneg (by omega) (by omega)
  have a4 : 0 ≤ (4095 - k) * (M - a) := Int.mul_nonneg (by omega) (by omega)
  constructor <;> grind
theorem lev_e {r : List Int} (h : 1 ≤ r.getD 0 0) (i : Nat) : 1 ≤ (lev r i).2 ∧ (lev r i).2 ≤ r.getD 0 0 := by
  induction i with
  | zero => exact ⟨h, Int.le_refl _⟩
  | succ i ih =>
    have hk := kOf_small r (lev r i).1 (lev r i).2
    have := eNext_small hk.1 hk.2 ih.1
    simp only [lev]
    omega
/-- How great coefficients can be on the way. -/
def within (a : List Int) (M : Int) : Prop := ∀ x ∈ a, -M ≤ x ∧ x ≤ M
theorem within.atD {a : List Int} {M : Int} (h : within a M) (h0 : 0 ≤ M) (k : Nat) : -M ≤ a.getD k 0 ∧ a.getD k 0 ≤ M := by
  by_cases hk : k < a.length
  · have e : a[k]? = some a[k] := by simp [hk]
    rw [getD_of e]
    exact h _ (List.getElem_mem hk)
  · rw [List.getD, List.getElem?_eq_none (by omega)]
    simp; omega
theorem turnL_within {a : List Int} {k M : Int} (h : within a M) (h0 : 4096 ≤ M) (h1 : -4095 ≤ k) (h2 : k ≤ 4095) : within (turnL a k ++ [k]) (2 * M) := by
  intro x hx
  rcases List.mem_append.1 hx with h3 | h3
  · unfold turnL at h3
    obtain ⟨j, hj, rfl⟩ := List.mem_map.1 h3
    have g1 := h.atD (by omega) j
    have g2 := h.atD (by omega) (a.length - 1 - j)
    have g3 := ka_small h1 h2 g2.1 g2.2
    omega
  · simp at h3
    subst h3
    omega
theorem lev_within (r : List Int) (i : Nat) : within (lev r i).1 (4096 * 2 ^ i) := by
  induction i with
  | zero => intro x hx; simp [lev] at hx
  | succ i ih =>
    have hk := kOf_small r (lev r i).1 (lev r i).2
    have hp : (1 : Int) ≤ 2 ^ i := Int.pow_pos (by decide)
    have := turnL_within ih (by omega) hk.1 hk.2
    simp only [lev]
    rw [show (4096 : Int) * 2 ^ (i + 1) = 2 * (4096 * 2 ^ i) by rw [Int.pow_succ]; omega]
    exact this
theorem lev_bound (r : List Int) {i : Nat} (h : i ≤ 12) : within (lev r i).1 16777216 := by
  intro x hx
  have h1 := lev_within r i x hx
  have h2 : (2 : Nat) ^ i ≤ 2 ^ 12 := Nat.pow_le_pow_right (by decide) h
  have h3 : (2 : Int) ^ i = ((2 ^ i : Nat) : Int) := by simp
  rw [h3] at h1
  omega
/-- Numbers that were scaled. -/
def allR (r : List Int) : Prop := ∀ x ∈ r, -1073741824 ≤ x ∧ x < 1073741824
theorem allR.atD {a : List Int} (h : allR a) (k : Nat) : -1073741824 ≤ a.getD k 0 ∧ a.getD k 0 < 1073741824 := by
  by_cases hk : k < a.length
  · have e : a[k]? = some a[k] := by simp [hk]
    rw [getD_of e]
    exact h _ (List.getElem_mem hk)
  · rw [List.getD, List.getElem?_eq_none (by omega)]
    simp
theorem ar_small {a b : Int} (h1 : -16777216 ≤ a) (h2 : a ≤ 16777216) (h3 : -1073741824 ≤ b) (h4 : b < 1073741824) : -18014398509481984 ≤ a * b ∧ a * b ≤ 18014398509481984 := by
  have a1 : 0 ≤ (a + 16777216) * (b + 1073741824) := Int.mul_nonneg (by omega) (by omega)
  have a2 : 0 ≤ (a + 16777216) * (1073741824 - b) := Int.mul_nonneg (by omega) (by omega)
  have a3 : 0 ≤ (16777216 - a) * (b + 1073741824) := Int.mul_nonneg (by omega) (by omega)
  have a4 : 0 ≤ (16777216 - a) * (1073741824 - b) := Int.mul_nonneg (by omega) (by omega)
  constructor <;> grind
theorem numTo_small {r a : List Int} (hr : allR r) (ha : within a 16777216) (j : Nat) : -4398046511104 - 18014398509481984 * (j : Int) ≤ numTo r a j ∧ numTo r a j ≤ 4398046511104 + 18014398509481984 * (j : Int) := by
  induction j with
  | zero =>
    have := hr.atD (a.length + 1)
    simp only [numTo]
    omega
  | succ j ih =>
    have h1 := ha.atD (by decide) j
    have h2 := hr.atD (a.length - j)
    have := ar_small h1.1 h1.2 h2.1 h2.2
    simp only [numTo]
    omega
theorem scale_R {x : List Int} {n s : Nat} (hs : IsShift (autoZ x 0) s) : allR (scaleL (autoL x n) s) := by
  intro y hy
  unfold scaleL autoL at hy
  obtain ⟨v, hv, rfl⟩ := List.mem_map.1 hy
  obtain ⟨k, -, rfl⟩ := List.mem_map.1 hv
  have := autoZ_le x k
  exact div_pow_small this.1 this.2 hs.1
theorem auto_R {x : List Int} (h : allS x) (hl : x.length ≤ 64) (n : Nat) (hn : 0 < n) : isR (autoL x n) := by
  refine ⟨by simpa using hn, ?_, ?_⟩
  · rw [autoL_getD x hn]; exact autoZ_zero x
  · intro y hy
    unfold autoL at hy
    obtain ⟨k, -, rfl⟩ := List.mem_map.1 hy
    have := autoZ_small h hl k
    unfold isB
    omega
/-- What Coefficients answers; s is the power of two of Scaled. -/
def coOut (x : List Int) (o : Int) (s : Nat) : List Int × Bool :=
  if o < 1 ∨ 12 < o ∨ (x.length : Int) ≤ o ∨ ¬ allS x ∨ 64 < x.length ∨ autoZ x 0 / 2 ^ s < 1 then ([], false)
  else if allC (lev (scaleL (autoL x (o.toNat + 1)) s) o.toNat).1 then ((lev (scaleL (autoL x (o.toNat + 1)) s) o.toNat).1, true) else ([], false)

end Go.Proofs.YthkfaackkcdcoabGreat

/- Numbers a third time: x[k:]; rows of noughts that were made. -/
namespace Go.Proofs.YthkfaackkcdcoabGreat
set_option linter.unusedVariables false
set_option linter.unusedSimpArgs false
open Go.RowKit Dg

/-- Where 'x[k:]' begins. -/
def lowI (a : Option Addr) (cap k : Nat) : Option Addr := if cap = k then a else a.map fun x => x.add k
theorem slice_ints_lo (a : Option Addr) (n cap k : Nat) (hk : k ≤ n) (W : World) : (Instr.sliceAt 22 (.slice a n cap) (some (.int .i64 (k : Int))) none none).run Tryz.prog W = .ok (.slice (lowI a cap k) (n - k) (cap - k)) W := by
  obtain ⟨i0, hi, hz0, hz1, hz2⟩ := info_parts Tryz.info3
  simp [Instr.sliceAt, Instr.slice, Instr.sliceBounds, Instr.sliceBound, asIntOf, run_underlying Tryz.underlying22, sizeOf, typeInfo, hi, hz1, hk, lowI]
theorem IntsAt.drop {w : World} {a : Option Addr} {cap : Nat} {l : List Int} (h : IntsAt w a l) (hc : l.length ≤ cap) (k : Nat) : IntsAt w (lowI a cap k) (l.drop k) := by
  intro j x hx
  rw [List.getElem?_drop] at hx
  have hj : k + j < l.length := (List.getElem?_eq_some_iff.1 hx).1
  obtain ⟨b, off, rfl, hcell⟩ := h (k + j) x hx
  refine ⟨b, off + k, ?_, ?_⟩
  · unfold lowI
    rw [if_neg (by omega)]
    simp [Addr.add]
  · rw [Nat.add_assoc]
    exact hcell
theorem madeI (n : Nat) : (madeCells (Value.int .i64 0).cells (n * 1)).toList = i64s (List.replicate n 0) := by
  apply List.ext_getElem?
  intro k
  by_cases hk : k < n
  · simp [madeCells, i64s, hk, Value.cells, Nat.mod_one]
  · rw [List.getElem?_eq_none (by simp [madeCells]; omega), List.getElem?_eq_none (by simp; omega)]
/-- A row of noughts that was just made. -/
theorem OwnInts.made {w : World} {base : Nat} {v : Value} {Z : List Int} (hZ : Z = List.replicate Z.length 0) (h : w.ownsRow base 3 1 v Z.length (madeCells (Value.int .i64 0).cells Z.length).toList) : OwnInts w base v Z := by
  show World.ownsRow _ _ _ _ _ _ _
  have e := madeI Z.length
  rw [← hZ, Nat.mul_one] at e
  rw [← e]; exact h

end Go.Proofs.YthkfaackkcdcoabGreat
