/- Get of package rice. -/
import Derived.Test.YtlonnoapbfjomabGreatRice5
import Derived.Test.YtlonnoapbfjomabGreatReads
namespace Go.Proofs.YtlonnoapbfjomabGreat
set_option linter.unusedVariables false
set_option linter.unusedSimpArgs false
open Go.RowKit Dg

/-- The next number: it, how many digits it takes, whether there is one. -/
def riceOut (ds : List Bool) (k : Int) : Nat × Nat × Bool :=
  if isPar k = true then
    if (onesOut ds 24).2.2 = true then
      if (onesOut ds 24).1 = 24 then
        if (getOut (ds.drop 24) 32).2.2 = true ∧ 24 ≤ (getOut (ds.drop 24) 32).1 / 2 ^ k.toNat then ((getOut (ds.drop 24) 32).1, 24 + 32, true) else (0, 0, false)
      else
        if (getOut (ds.drop ((onesOut ds 24).1 + 1)) k).2.2 = true then ((onesOut ds 24).1 * 2 ^ k.toNat + (getOut (ds.drop ((onesOut ds 24).1 + 1)) k).1, (onesOut ds 24).1 + 1 + k.toNat, true) else (0, 0, false)
    else (0, 0, false)
  else (0, 0, false)

theorem onesOut_cases (ds : List Bool) : onesOut ds 24 = (0, 0, false) ∨ onesOut ds 24 = (24, 24, true) ∨ ∃ c, c < 24 ∧ onesOut ds 24 = (c, c + 1, true) := by
  have h := lead_le ds 24
  have e : onesOut ds 24 = if lead ds 24 = 24 then (24, 24, true) else if lead ds 24 = ds.length then (0, 0, false) else (lead ds 24, lead ds 24 + 1, true) := by
    unfold onesOut
    rw [if_pos (by decide)]
    rfl
  rw [e]
  by_cases h1 : lead ds 24 = 24
  · rw [if_pos h1]; exact .inr (.inl rfl)
  · rw [if_neg h1]
    by_cases h2 : lead ds 24 = ds.length
    · rw [if_pos h2]; exact .inl rfl
    · rw [if_neg h2]; exact .inr (.inr ⟨lead ds 24, by omega, rfl⟩)

theorem getOut_cases (ds : List Bool) (n : Nat) : (getOut ds n = (0, 0, false)) ∨ ∃ v, v < 2 ^ n ∧ n ≤ ds.length ∧ getOut ds n = (v, n, true) := by
  unfold getOut
  by_cases h : 0 ≤ (n : Int) ∧ (n : Int) ≤ 62 ∧ (n : Int) ≤ ds.length
  · rw [if_pos h]
    refine .inr ⟨num (ds.take n), ?_, by omega, rfl⟩
    have := num_lt (ds.take n)
    rwa [List.length_take, Nat.min_eq_left (by omega)] at this
  · rw [if_neg h]; exact .inl rfl

theorem or_i64 (q v m : Nat) (hv : v < 2 ^ m) (hq : q < 24) (hm : m ≤ 24) (X : Int) (hX : X = ((q * 2 ^ m : Nat) : Int)) : bits BinOp.or IntKind.i64 X (v : Int) = ((q * 2 ^ m + v : Nat) : Int) := by
  have hp : 2 ^ m ≤ 2 ^ 24 := Nat.pow_le_pow_right (by decide) hm
  have hp2 : (2 : Nat) ^ 24 = 16777216 := by decide
  have hqm : q * 2 ^ m ≤ 24 * 16777216 := Nat.mul_le_mul (by omega) (by omega)
  subst hX
  show IntKind.i64.wrap ((BitVec.ofInt 64 ((q * 2 ^ m : Nat) : Int) ||| BitVec.ofInt 64 ((v : Nat) : Int)).toNat : Int) = _
  rw [BitVec.toNat_or, ofInt_u64 (q * 2 ^ m) (by omega), ofInt_u64 v (by omega), Nat.mul_comm q, ← Nat.two_pow_add_eq_or_of_lt hv]
  have hw : ∀ n : Nat, n < 9223372036854775808 → IntKind.i64.wrap ((n : Nat) : Int) = (n : Int) := by
    intro n hn
    simp [IntKind.wrap, IntKind.bits, IntKind.signed]
    omega
  exact hw _ (by rw [Nat.mul_comm]; omega)

theorem riceOut_false (ds : List Bool) (k : Int) (h : (riceOut ds k).2.2 = false) : riceOut ds k = (0, 0, false) := by
  unfold riceOut at h ⊢
  split at h
  · rename_i h1
    rw [if_pos h1]
    split at h
    · rename_i h2
      rw [if_pos h2]
      split at h
      · rename_i h3
        rw [if_pos h3]
        split at h
        · cases h
        · rename_i h4; rw [if_neg h4]
      · rename_i h3
        rw [if_neg h3]
        split at h
        · cases h
        · rename_i h4; rw [if_neg h4]
    · rename_i h2; rw [if_neg h2]
  · rename_i h1; rw [if_neg h1]

theorem wrap64_qk (q m : Nat) (hq : q < 24) (hm : m ≤ 24) : wrap64 ((q : Int) * 2 ^ m) = ((q * 2 ^ m : Nat) : Int) := by
  have hp : 2 ^ m ≤ 2 ^ 24 := Nat.pow_le_pow_right (by decide) hm
  have hp2 : (2 : Nat) ^ 24 = 16777216 := by decide
  have hqm : q * 2 ^ m ≤ 24 * 16777216 := Nat.mul_le_mul (by omega) (by omega)
  have e : ((q : Int) * 2 ^ m) = ((q * 2 ^ m : Nat) : Int) := by push_cast; rfl
  rw [e]
  generalize q * 2 ^ m = X at hqm ⊢
  unfold wrap64
  omega

set_option maxHeartbeats 2000000 in
theorem next_all (w : World) (b : Nat) (rv : Value) (l : List Nat) (at_ : Nat) (k : Nat) (h : RdAt w b rv l at_) (hk : k ≤ 24) (o : Nat × Nat × Bool) (ho : riceOut (left l at_) k = o) :
    Calls Tryz.prog 106 #[.pointer (some ⟨b, 0, none⟩), .int .i64 k] w fun e w' => ∃ (v : Int) (t : Nat), e = .returned (.tuple #[.int .i64 v, .bool o.2.2]) ∧ RdAt w' b rv l t ∧ Kept (fun i => i = b) w w' ∧ (o.2.2 = true → v = (o.1 : Nat) ∧ t = at_ + o.2.1) := by
  have HR : Hid (RdAt w b rv l at_) := h
  have hp : isPar (k : Int) = true := by simp [isPar]; omega
  rcases onesOut_cases (left l at_) with h1 | h1 | ⟨q, hq, h1⟩
  · have e : o = (0, 0, false) := by rw [← ho]; simp [riceOut, hp, h1]
    subst e
    have H1 : Hid (onesOut (left l at_) 24 = (0, 0, false)) := h1
    clear h hp h1 ho
    go_enter Tryz.func106, Tryz.ntmps106
    go_wp2_with fail
    refine (rones_all' w b rv l at_ 24 HR.out _ H1.out).mono ?_
    rintro e w1 ⟨rfl, hr1, hk1⟩
    have HR1 : Hid (RdAt w1 b rv l (at_ + 0)) := hr1
    have HK1 : Hid (Kept (fun i => i = b) w w1) := hk1
    clear hr1 hk1
    go_wp2
    go_ret2
    exact ⟨_, _, rfl, HR1.out, HK1.out, fun h => by cases h⟩
  · have H1 : Hid (onesOut (left l at_) 24 = (24, 24, true)) := h1
    have hd : (left l at_).drop 24 = left l (at_ + 24) := (left_drop l at_ 24).symm
    rcases getOut_cases (left l (at_ + 24)) 32 with h2 | ⟨z, hz, hz2, h2⟩
    · have h2' : getOut (left l (at_ + 24)) 32 = (0, 0, false) := h2
      have e : o = (0, 0, false) := by rw [← ho]; simp [riceOut, hp, h1, hd, h2']
      subst e
      have H2 : Hid (getOut (left l (at_ + 24)) 32 = (0, 0, false)) := h2'
      clear h hp h1 ho h2 h2' hd
      go_enter Tryz.func106, Tryz.ntmps106
      go_wp2_with fail
      refine (rones_all' w b rv l at_ 24 HR.out _ H1.out).mono ?_
      rintro e w1 ⟨rfl, hr1, hk1⟩
      have HR1 : Hid (RdAt w1 b rv l (at_ + 24)) := hr1
      have HK1 : Hid (Kept (fun i => i = b) w w1) := hk1
      clear hr1 hk1
      go_wp2_with fail
      refine (get_all' w1 b rv l (at_ + 24) 32 HR1.out _ H2.out).mono ?_
      rintro e w2 ⟨rfl, hr2, hk2⟩
      have HR2 : Hid (RdAt w2 b rv l (at_ + 24 + 0)) := hr2
      have HK2 : Hid (Kept (fun i => i = b) w w2) := HK1.out.trans hk2
      clear hr2 hk2
      go_wp2
      go_ret2
      exact ⟨_, _, rfl, HR2.out, HK2.out, fun h => by cases h⟩
    · have h2' : getOut (left l (at_ + 24)) 32 = (z, 32, true) := h2
      have hz32 : z < 4294967296 := hz
      have HO : Hid (o = if 24 ≤ z / 2 ^ k then (z, 56, true) else (0, 0, false)) := by
        show _ = _
        rw [← ho]; simp [riceOut, hp, h1, hd, h2']
      have H2 : Hid (getOut (left l (at_ + 24)) 32 = (z, 32, true)) := h2'
      obtain ⟨r, hr⟩ : ∃ r, r = isRawOf (z : Int) k := ⟨_, rfl⟩
      have HRW : Hid (r = isRawOf (z : Int) k) := hr
      have hrd : o.2.2 = r ∧ (r = true → o = (z, 56, true)) := by
        have hcast : (24 ≤ z / 2 ^ k) ↔ ((24 : Int) ≤ (z : Int) / 2 ^ k) := by
          rw [← pow_cast]
          omega
        rw [HO.out, hr]
        by_cases hc : 24 ≤ z / 2 ^ k
        · rw [if_pos hc]; exact ⟨by simp [isRawOf]; exact hcast.1 hc, fun _ => rfl⟩
        · rw [if_neg hc]
          have hcf : isRawOf (z : Int) k = false := by
            simp only [isRawOf, decide_eq_false_iff_not]
            exact fun hx => hc (hcast.2 hx)
          exact ⟨by rw [hcf], fun hx => by rw [hcf] at hx; cases hx⟩
      obtain ⟨ho1, ho2⟩ := hrd
      have HO2 : Hid (r = true → o = (z, 56, true)) := ho2
      rw [ho1]
      clear h hp h1 ho h2 h2' hd hr ho2 HO hz ho1
      go_enter Tryz.func106, Tryz.ntmps106
      go_wp2_with fail
      refine (rones_all' w b rv l at_ 24 HR.out _ H1.out).mono ?_
      rintro e w1 ⟨rfl, hr1, hk1⟩
      have HR1 : Hid (RdAt w1 b rv l (at_ + 24)) := hr1
      have HK1 : Hid (Kept (fun i => i = b) w w1) := hk1
      clear hr1 hk1
      go_wp2_with fail
      refine (get_all' w1 b rv l (at_ + 24) 32 HR1.out _ H2.out).mono ?_
      rintro e w2 ⟨rfl, hr2, hk2⟩
      have HR2 : Hid (RdAt w2 b rv l (at_ + 24 + 32)) := hr2
      have HK2 : Hid (Kept (fun i => i = b) w w2) := HK1.out.trans hk2
      clear hr2 hk2
      go_wp2_with (go_at_call 100; refine (isRaw_any z k _ (by omega) (by omega) (by omega)).mono ?_; rw [← HRW.out]; rintro e w3 ⟨rfl, rfl⟩)
      go_ret2
      exact ⟨_, _, rfl, HR2.out, HK2.out, fun h => by rw [HO2.out h]; exact ⟨rfl, rfl⟩⟩
  · have H1 : Hid (onesOut (left l at_) 24 = (q, q + 1, true)) := h1
    have hd : (left l at_).drop (q + 1) = left l (at_ + (q + 1)) := (left_drop l at_ (q + 1)).symm
    have hq24 : ((q : Int) == 24) = false := by simp; omega
    have hqne : ¬ q = 24 := by omega
    rcases getOut_cases (left l (at_ + (q + 1))) k with h2 | ⟨z, hz, hz2, h2⟩
    · have e : o = (0, 0, false) := by rw [← ho]; simp [riceOut, hp, h1, hd, h2, hqne]
      subst e
      have H2 : Hid (getOut (left l (at_ + (q + 1))) k = (0, 0, false)) := h2
      clear h hp h1 ho h2 hd
      go_enter Tryz.func106, Tryz.ntmps106
      go_wp2_with fail
      refine (rones_all' w b rv l at_ 24 HR.out _ H1.out).mono ?_
      rintro e w1 ⟨rfl, hr1, hk1⟩
      have HR1 : Hid (RdAt w1 b rv l (at_ + (q + 1))) := hr1
      have HK1 : Hid (Kept (fun i => i = b) w w1) := hk1
      clear hr1 hk1
      go_wp2_with fail
      refine (get_all' w1 b rv l (at_ + (q + 1)) k HR1.out _ H2.out).mono ?_
      rintro e w2 ⟨rfl, hr2, hk2⟩
      have HR2 : Hid (RdAt w2 b rv l (at_ + (q + 1) + 0)) := hr2
      have HK2 : Hid (Kept (fun i => i = b) w w2) := HK1.out.trans hk2
      clear hr2 hk2
      go_wp2
      go_ret2
      exact ⟨_, _, rfl, HR2.out, HK2.out, fun h => by cases h⟩
    · have e : o = (q * 2 ^ k + z, q + 1 + k, true) := by rw [← ho]; simp [riceOut, hp, h1, hd, h2, hqne]
      subst e
      have H2 : Hid (getOut (left l (at_ + (q + 1))) k = (z, k, true)) := h2
      have HZ : Hid (bits BinOp.or IntKind.i64 (wrap64 ((q : Int) * 2 ^ k)) (z : Int) = ((q * 2 ^ k + z : Nat) : Int)) := or_i64 q z k hz hq hk _ (wrap64_qk q k hq hk)
      clear h hp h1 ho h2 hd hz hz2
      go_enter Tryz.func106, Tryz.ntmps106
      go_wp2_with fail
      refine (rones_all' w b rv l at_ 24 HR.out _ H1.out).mono ?_
      rintro e w1 ⟨rfl, hr1, hk1⟩
      have HR1 : Hid (RdAt w1 b rv l (at_ + (q + 1))) := hr1
      have HK1 : Hid (Kept (fun i => i = b) w w1) := hk1
      clear hr1 hk1
      go_wp2_with fail
      refine (get_all' w1 b rv l (at_ + (q + 1)) k HR1.out _ H2.out).mono ?_
      rintro e w2 ⟨rfl, hr2, hk2⟩
      have HR2 : Hid (RdAt w2 b rv l (at_ + (q + 1) + k)) := hr2
      have HK2 : Hid (Kept (fun i => i = b) w w2) := HK1.out.trans hk2
      clear hr2 hk2
      go_wp2
      go_ret2
      exact ⟨_, _, rfl, HR2.out, HK2.out, fun h => ⟨HZ.out, by show at_ + (q + 1) + k = at_ + (q + 1 + k); omega⟩⟩

theorem rd_store {w : World} {b : Nat} {rv : Value} {l : List Nat} {k : Nat} (h : RdAt w b rv l k) (t : Nat) (ht : t ≤ 8 * l.length) : RdAt ((w.setCell ⟨b, 0, none⟩ rv).setCell ⟨b, 1, none⟩ (.int .i64 (t : Nat))) b rv l t := by
  have hk : Kept (fun i => i = b) w ((w.setCell ⟨b, 0, none⟩ rv).setCell ⟨b, 1, none⟩ (.int .i64 (t : Nat))) := (Kept.setCell (F := fun i => i = b) w ⟨b, 0, none⟩ _ rfl).trans (Kept.setCell (F := fun i => i = b) _ ⟨b, 1, none⟩ _ rfl)
  refine ⟨?_, h.row.kept hk (fun i hi e => h.ne (e ▸ hi)), ht, h.ne, h.byte, h.small⟩
  have h1 := heap_setCell_of (o := 0) h.box rv
  have h2 := heap_setCell_of (o := 1) h1 (.int .i64 (t : Nat))
  rw [h2]
  rfl

set_option maxHeartbeats 2000000 in
theorem riceGet_all (w : World) (b : Nat) (rv : Value) (l : List Nat) (at_ : Nat) (k : Int) (h : RdAt w b rv l at_) (hlt : ∀ i, rv.ownBlock = some i → i < w.heap.size) (o : Nat × Nat × Bool) (ho : riceOut (left l at_) k = o) :
    Calls Tryz.prog 95 #[.pointer (some ⟨b, 0, none⟩), .int .i64 k] w fun e w' => e = .returned (.tuple #[.int .i64 (o.1 : Nat), .bool o.2.2]) ∧ RdAt w' b rv l (at_ + o.2.1) ∧ Kept (fun i => i = b) w w' := by
  cases hp : isPar k with
  | false =>
    have e : o = (0, 0, false) := by rw [← ho]; simp [riceOut, hp]
    subst e
    have HP : Hid (isPar k = false) := hp
    have HR : Hid (RdAt w b rv l at_) := h
    clear hp h ho
    go_enter Tryz.func95, Tryz.ntmps95
    go_wp2_with (go_at_call 99; refine (isParameter_any k w).mono ?_; rw [HP.out]; rintro e w2 ⟨rfl, rfl⟩)
    go_ret2
    exact ⟨rfl, HR.out, Kept.refl _ _⟩
  | true =>
    obtain ⟨hk1, hk2⟩ := isPar_true hp
    obtain ⟨kk, rfl⟩ := Int.eq_ofNat_of_zero_le hk1
    obtain ⟨ao, cp, rfl, _⟩ := id h.row
    have HP : Hid (isPar (kk : Int) = true) := hp
    have HR : Hid (RdAt w b (.slice ao l.length cp) l at_) := h
    have HO : Hid (riceOut (left l at_) (kk : Int) = o) := ho
    have hb0 : w.cell? ⟨b, 0, none⟩ = some (.slice ao l.length cp) := by simp [World.cell?, h.box]
    have hb1 : w.cell? ⟨b, 1, none⟩ = some (.int .i64 (at_ : Nat)) := by simp [World.cell?, h.box]
    have hbl : b < w.heap.size := h.lt
    have HLT : Hid (∀ i, (Value.slice ao l.length cp).ownBlock = some i → i < w.heap.size) := hlt
    clear hp h ho hlt
    go_enter Tryz.func95, Tryz.ntmps95
    go_wp2_with first
      | (go_at_call 99; refine (isParameter_any kk w).mono ?_; rw [HP.out]; rintro e w2 ⟨rfl, rfl⟩)
      | fail
    have HRC : Hid (RdAt (w.alloc (.cells #[.slice ao l.length cp, .int .i64 (at_ : Nat)] 83)) w.heap.size (.slice ao l.length cp) l at_) := by
      have hr := HR.out
      refine ⟨heap_alloc_new w _, hr.row.below ((Below.refl _ _).alloc (Nat.le_refl _) _), hr.le, ?_, hr.byte, hr.small⟩
      intro e
      have := HLT.out _ e
      omega
    refine (next_all _ w.heap.size (.slice ao l.length cp) l at_ kk HRC.out (by omega) o HO.out).mono ?_
    rintro e w1 ⟨v, t, rfl, hr1, hkp1, hok⟩
    have HR1 : Hid (RdAt w1 w.heap.size (.slice ao l.length cp) l t) := hr1
    have hk1 : Kept (fun i => i = b) w w1 := (Kept.alloc (fun i => i = b) w _).trans' (hkp1.mono (G := fun i => i = w.heap.size) (fun i _ h => h)) (fun i hi h => by omega)
    have HR2 : Hid (RdAt w1 b (.slice ao l.length cp) l at_) := (HR.out.below ((Below.refl _ _).alloc (Nat.le_refl _) _)).kept hkp1 (by omega) (fun i hi => by have := HLT.out i hi; omega)
    have HK1 : Hid (Kept (fun i => i = b) w w1) := hk1
    have HF : Hid (o.2.2 = false → o = (0, 0, false)) := fun h => by have := HO.out; subst this; exact riceOut_false _ _ h
    have HOK : Hid (o.2.2 = true → v = (o.1 : Nat) ∧ t = at_ + o.2.1) := hok
    have hc0 : w1.cell? ⟨w.heap.size, 0, none⟩ = some (.slice ao l.length cp) := by simp [World.cell?, hr1.box]
    have hc1 : w1.cell? ⟨w.heap.size, 1, none⟩ = some (.int .i64 (t : Nat)) := by simp [World.cell?, hr1.box]
    have hd0 : w1.cell? ⟨b, 0, none⟩ = some (.slice ao l.length cp) := by simp [World.cell?, HR2.out.box]
    have hd1 : w1.cell? ⟨b, 1, none⟩ = some (.int .i64 (at_ : Nat)) := by simp [World.cell?, HR2.out.box]
    have hf0 : w1.frozen? ⟨b, 0, none⟩ = false := by simp [World.frozen?, HR2.out.box]
    have hf1 : w1.frozen? ⟨b, 1, none⟩ = false := by simp [World.frozen?, HR2.out.box]
    obtain ⟨g, hg⟩ : ∃ g, g = w.heap.size := ⟨_, rfl⟩
    have hgb : g ≠ b := by omega
    rw [← hg] at hc0 hc1 ⊢
    clear hb0 hb1 hg hr1 hkp1 hk1 hok
    obtain ⟨o1, o2, ok⟩ := o
    simp only at HF HOK ⊢
    cases ok with
    | false =>
      have e := HF.out rfl
      cases e
      go_wp2
      go_ret2
      exact ⟨rfl, HR2.out, HK1.out⟩
    | true =>
      obtain ⟨rfl, rfl⟩ := HOK.out rfl
      have hle := HR1.out.le
      go_wp2
      go_ret2
      have ec : ((at_ : Int) + (o2 : Int)) = ((at_ + o2 : Nat) : Int) := by push_cast; rfl
      rw [ec]
      exact ⟨rfl, rd_store HR2.out _ hle, (HK1.out.trans (Kept.setCell (F := fun i => i = b) w1 ⟨b, 0, none⟩ _ rfl)).trans (Kept.setCell (F := fun i => i = b) _ ⟨b, 1, none⟩ _ rfl)⟩

end Go.Proofs.YtlonnoapbfjomabGreat
