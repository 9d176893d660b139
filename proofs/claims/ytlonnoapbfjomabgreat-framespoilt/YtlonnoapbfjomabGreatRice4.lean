/- The document's own answers: may, Size, Best; Cut of numbers. -/
import Derived.Test.YtlonnoapbfjomabGreatRice2
namespace Go.Proofs.YtlonnoapbfjomabGreat
set_option linter.unusedVariables false
set_option linter.unusedSimpArgs false
open Go.RowKit Dg

set_option maxHeartbeats 1000000 in
theorem may_any (z k : Int) (w : World) (m : Bool) (hm : m = (isNum z && isPar k)) :
    Calls Tryz.prog 67 #[.int .i64 z, .int .i64 k] w fun e w' => e = .returned (.bool m) ∧ w = w' := by
  have hc : (z < 0 ∧ m = false) ∨ (0 ≤ z ∧ 4294967296 ≤ z ∧ m = false) ∨ (0 ≤ z ∧ z < 4294967296 ∧ k < 0 ∧ m = false) ∨ (0 ≤ z ∧ z < 4294967296 ∧ 0 ≤ k ∧ 24 < k ∧ m = false) ∨ (0 ≤ z ∧ z < 4294967296 ∧ 0 ≤ k ∧ k ≤ 24 ∧ m = true) := by
    cases hz : isNum z with
    | true =>
      obtain ⟨h1, h2⟩ := isNum_true hz
      cases hk : isPar k with
      | true =>
        obtain ⟨h3, h4⟩ := isPar_true hk
        simp [hz, hk] at hm
        exact .inr (.inr (.inr (.inr ⟨h1, h2, h3, h4, hm⟩)))
      | false =>
        simp [hz, hk] at hm
        rcases isPar_false hk with h | h
        · exact .inr (.inr (.inl ⟨h1, h2, h, hm⟩))
        · exact .inr (.inr (.inr (.inl ⟨h1, h2, by omega, h, hm⟩)))
    | false =>
      simp [hz] at hm
      rcases isNum_false hz with h | h
      · exact .inl ⟨h, hm⟩
      · exact .inr (.inl ⟨by omega, h, hm⟩)
  clear hm
  rcases hc with ⟨h1, rfl⟩ | ⟨h1, h2, rfl⟩ | ⟨h1, h2, h3, rfl⟩ | ⟨h1, h2, h3, h4, rfl⟩ | ⟨h1, h2, h3, h4, rfl⟩
  · go_enter Tryz.func67, Tryz.ntmps67
    go_wp2
    go_ret
    exact ⟨rfl, rfl⟩
  · have hb : decide (z < 4294967296) = false := by simp; omega
    go_enter Tryz.func67, Tryz.ntmps67
    go_wp2
    go_ret
    exact ⟨rfl, rfl⟩
  · have hb : decide (0 ≤ k) = false := by simp; omega
    go_enter Tryz.func67, Tryz.ntmps67
    go_wp2
    go_ret
    exact ⟨rfl, rfl⟩
  · have hb : decide (k ≤ 24) = false := by simp; omega
    go_enter Tryz.func67, Tryz.ntmps67
    go_wp2
    go_ret
    exact ⟨rfl, rfl⟩
  · go_enter Tryz.func67, Tryz.ntmps67
    go_wp2
    go_ret
    exact ⟨rfl, rfl⟩

set_option maxHeartbeats 1000000 in
theorem rsize_in (z : Int) (k : Nat) (w : World) (hz : isNum z = true) (hk : k ≤ 24) :
    Calls Tryz.prog 68 #[.int .i64 z, .int .i64 k] w fun e w' => e = .returned (.int .i64 (sizeIn z k)) ∧ w = w' := by
  have hp : isPar (k : Int) = true := by simp [isPar]; omega
  obtain ⟨h1, h2⟩ := isNum_true hz
  obtain ⟨h3, h4⟩ := quot_le z k h1
  have HM : Hid (true = (isNum z && isPar (k : Int))) := by show _ = _; rw [hz, hp]; rfl
  clear hz hp
  by_cases hr : 24 ≤ z / 2 ^ k
  · have e : sizeIn z k = 56 := by simp [sizeIn, hr]
    rw [e]
    clear e
    go_enter Tryz.func68, Tryz.ntmps68
    go_wp2_with (go_at_call 67; refine (may_any z k w true HM.out).mono ?_; rintro e w2 ⟨rfl, rfl⟩)
    go_ret
    exact ⟨rfl, rfl⟩
  · have e : sizeIn z k = z / 2 ^ k + 1 + k := by simp [sizeIn, hr]
    rw [e]
    clear e
    go_enter Tryz.func68, Tryz.ntmps68
    go_wp2_with (go_at_call 67; refine (may_any z k w true HM.out).mono ?_; rintro e w2 ⟨rfl, rfl⟩)
    go_ret
    exact ⟨rfl, rfl⟩

set_option maxHeartbeats 1000000 in
theorem rsize_any (z k : Int) (w : World) :
    Calls Tryz.prog 68 #[.int .i64 z, .int .i64 k] w fun e w' => e = .returned (.int .i64 (sizeOf1 z k)) ∧ w = w' := by
  by_cases h : isNum z = true ∧ isPar k = true
  · obtain ⟨hz, hk⟩ := h
    have e : sizeOf1 z k = sizeIn z k.toNat := by simp [sizeOf1, hz, hk]
    obtain ⟨h1, h2⟩ := isPar_true hk
    have ek : k = (k.toNat : Int) := by omega
    rw [e]
    have := rsize_in z k.toNat w hz (by omega)
    rw [← ek] at this
    exact this
  · have e : sizeOf1 z k = 0 := by simp only [sizeOf1]; rw [if_neg h]
    rw [e]
    clear e
    have HM : Hid (false = (isNum z && isPar k)) := by
      show _ = _
      cases hz : isNum z <;> cases hk : isPar k <;> simp_all
    clear h
    go_enter Tryz.func68, Tryz.ntmps68
    go_wp2_with (go_at_call 67; refine (may_any z k w false HM.out).mono ?_; rintro e w2 ⟨rfl, rfl⟩)
    go_ret
    exact ⟨rfl, rfl⟩

theorem isPar_zero : isPar 0 = true := by decide

set_option maxHeartbeats 1000000 in
theorem rbest_bad (w : World) (a : Option Addr) (cap : Nat) (l : List Int) (h : IntsAt w a l) (hl : l.length ≤ 4096) (hbad : ∃ x ∈ l, isNum x = false) :
    Calls Tryz.prog 42 #[.slice a l.length cap] w fun e w' => e = .returned (.tuple #[.int .i64 0, .int .i64 0]) ∧ w = w' := by
  have HI : Hid (IntsAt w a l) := h
  have HB : Hid (∃ x ∈ l, isNum x = false) := hbad
  clear h hbad
  go_enter Tryz.func42, Tryz.ntmps42
  go_wp2
  go_loopw [12] (fun i wr => ∃ (j : Nat), i = .int .i64 (j : Int) ∧ j ≤ l.length ∧ Hid (∀ x ∈ l.take j, isNum x = true) ∧ w = wr) (fun i _ => l.length - (intOf i).toNat)
  case atStart => exact ⟨0, rfl, Nat.zero_le _, by intro x hx; simp at hx, rfl⟩
  case round =>
    obtain ⟨j, rfl, hj, ht, rfl⟩ := hrel
    by_cases hjn : j < l.length
    · obtain ⟨x, hx⟩ : ∃ x, l[j]? = some x := ⟨l[j], by simp [hjn]⟩
      obtain ⟨b, off, rfl, hc⟩ := HI.out j x hx
      have HX : Hid (l[j]? = some x) := hx
      clear hx HI
      by_cases hn : isNum x = true
      · have HN : Hid (isNum x = true) := hn
        have HM : Hid (true = (isNum x && isPar 0)) := by show _ = _; rw [hn]; rfl
        clear hn
        go_wp2_with (go_at_call 67; refine (may_any x 0 _ true HM.out).mono ?_; rintro e w2 ⟨rfl, rfl⟩)
        go_roundw
        case rel =>
          refine ⟨j + 1, by go_num, by omega, ?_, by trivial⟩
          intro y hy
          rw [List.take_add_one, HX.out] at hy
          rcases List.mem_append.1 hy with h1 | h1
          · exact ht.out y h1
          · simp at h1; subst h1; exact HN.out
        case measure => simp [intOf]; omega
      · have HM : Hid (false = (isNum x && isPar 0)) := by show _ = _; simp at hn; rw [hn]; rfl
        clear hn
        go_wp2_with (go_at_call 67; refine (may_any x 0 _ false HM.out).mono ?_; rintro e w2 ⟨rfl, rfl⟩)
        go_ret2
        exact ⟨rfl, rfl⟩
    · exfalso
      obtain ⟨x, hx, hf⟩ := HB.out
      have := ht.out x (by rw [List.take_of_length_le (by omega)]; exact hx)
      rw [this] at hf
      cases hf

set_option maxRecDepth 100000 in
set_option maxHeartbeats 4000000 in
theorem rbest_all (w : World) (a : Option Addr) (cap : Nat) (l : List Int) (h : IntsAt w a l) (hl : l.length ≤ 4096) (hall : ∀ x ∈ l, isNum x = true) (bk : Nat) (bs : Int) (HR : Hid (bestTo l 24 = (bk, bs))) :
    Calls Tryz.prog 42 #[.slice a l.length cap] w fun e w' => e = .returned (.tuple #[.int .i64 bk, .int .i64 bs]) ∧ w = w' := by
  have HI : Hid (IntsAt w a l) := h
  have HB : Hid (∀ x ∈ l, isNum x = true) := hall
  clear h hall
  go_enter Tryz.func42, Tryz.ntmps42
  go_wp2
  go_loopw [12] (fun i wr => ∃ (j : Nat), i = .int .i64 (j : Int) ∧ j ≤ l.length ∧ w = wr) (fun i _ => l.length - (intOf i).toNat)
  case atStart => exact ⟨0, rfl, Nat.zero_le _, rfl⟩
  case round =>
    obtain ⟨j, rfl, hj, rfl⟩ := hrel
    by_cases hjn : j < l.length
    · obtain ⟨x, hx⟩ : ∃ x, l[j]? = some x := ⟨l[j], by simp [hjn]⟩
      obtain ⟨b, off, rfl, hc⟩ := HI.out j x hx
      have HM : Hid (true = (isNum x && isPar 0)) := by show _ = _; rw [HB.out x (List.mem_of_getElem? hx)]; rfl
      clear hx HI HB
      go_wp2_with (go_at_call 67; refine (may_any x 0 _ true HM.out).mono ?_; rintro e w2 ⟨rfl, rfl⟩)
      go_roundw
      case rel => exact ⟨j + 1, by go_num, by omega, by trivial⟩
      case measure => simp [intOf]; omega
    · go_wp2
      go_loopw [5, 6, 7] (fun bk s i wr => ∃ (j p : Nat) (t : Int), i = .int .i64 (j : Int) ∧ bk = .int .i64 (p : Int) ∧ s = .int .i64 t ∧ j ≤ 25 ∧ Hid (j = 0 ∨ ∃ m, j = m + 1 ∧ bestTo l m = (p, t)) ∧ w = wr) (fun bk s i _ => 25 - (intOf i).toNat)
      case atStart => exact ⟨0, 0, 0, rfl, rfl, rfl, by decide, .inl rfl, rfl⟩
      case round =>
        obtain ⟨p, bp, bt, rfl, rfl, rfl, hp, hbest, rfl⟩ := hrel
        by_cases hp24 : p ≤ 24
        · have hpb : decide ((p : Int) ≤ 24) = true := by simp; omega
          go_wp2
          go_loopw [8, 28] (fun s i ws => ∃ (j : Nat) (t : Int), i = .int .i64 (j : Int) ∧ s = .int .i64 t ∧ j ≤ l.length ∧ Hid (t = sumSize (l.take j) p) ∧ 0 ≤ t ∧ t ≤ 56 * j ∧ w = ws) (fun s i _ => l.length - (intOf i).toNat)
          case atStart => exact ⟨0, 0, rfl, rfl, Nat.zero_le _, rfl, by decide, by decide, rfl⟩
          case round =>
            obtain ⟨j, t, rfl, rfl, hj, ht, ht0, ht1, rfl⟩ := hrel
            by_cases hjn : j < l.length
            · obtain ⟨x, hx⟩ : ∃ x, l[j]? = some x := ⟨l[j], by simp [hjn]⟩
              obtain ⟨b, off, rfl, hcell⟩ := HI.out j x hx
              obtain ⟨sz, hsz⟩ : ∃ sz, sz = sizeOf1 x p := ⟨_, rfl⟩
              have hbd := sizeOf1_bounds x p
              rw [← hsz] at hbd
              obtain ⟨hb1, hb2⟩ := hbd
              have HSZ : Hid (sz = sizeOf1 x p) := hsz
              have HX : Hid (l[j]? = some x) := hx
              clear hx hsz
              go_wp2_with (go_at_call 68; refine (rsize_any x p _).mono ?_; rw [← HSZ.out]; rintro e w2 ⟨rfl, rfl⟩)
              go_roundw
              case rel =>
                have HT : Hid (t + sz = sumSize (l.take (j + 1)) p) := by show _ = _; rw [sumSize_take l p j x HX.out, ← ht.out, ← HSZ.out]
                have hg1 : 0 ≤ t + sz := by omega
                have hg2 : t + sz ≤ 56 * ((j + 1 : Nat) : Int) := by omega
                first
                  | exact ⟨j + 1, t + sz, by go_num, rfl, by omega, HT, hg1, hg2, by trivial⟩
                  | ((repeat apply Exists.intro); refine ⟨?_, rfl⟩; exact ⟨j + 1, t + sz, by go_num, rfl, by omega, HT, hg1, hg2, by trivial⟩)
              case measure => simp [intOf]; omega
            · have e : j = l.length := by omega
              subst e
              have e2 := ht.out
              rw [List.take_length] at e2
              have HT : Hid (t = sumSize l p) := e2
              clear e2 ht
              have cs : (((p : Int) == 0) = true ∧ Hid (bestTo l p = (p, t))) ∨ (((p : Int) == 0) = false ∧ t < bt ∧ Hid (bestTo l p = (p, t))) ∨ (((p : Int) == 0) = false ∧ bt ≤ t ∧ Hid (bestTo l p = (bp, bt))) := by
                rcases hbest.out with h | ⟨m, rfl, hm⟩
                · subst h
                  refine .inl ⟨rfl, ?_⟩
                  show _ = _
                  rw [HT.out]; rfl
                · have hne : (((m + 1 : Nat) : Int) == 0) = false := by simp; omega
                  by_cases hlt : t < bt
                  · refine .inr (.inl ⟨hne, hlt, ?_⟩)
                    show _ = _
                    rw [bestTo, ← HT.out, hm, if_pos hlt]
                  · refine .inr (.inr ⟨hne, by omega, ?_⟩)
                    show _ = _
                    rw [bestTo, ← HT.out, hm, if_neg hlt]
              clear hbest
              rcases cs with ⟨c1, c2⟩ | ⟨c1, c2, c3⟩ | ⟨c1, c2, c3⟩
              · go_wp2
                go_roundw
                case rel =>
                  have HM : Hid (p + 1 = 0 ∨ ∃ m, p + 1 = m + 1 ∧ bestTo l m = (p, t)) := .inr ⟨p, rfl, c2.out⟩
                  first
                    | exact ⟨p + 1, p, t, by go_num, rfl, rfl, by omega, HM, by trivial⟩
                    | ((repeat apply Exists.intro); refine ⟨?_, rfl⟩; exact ⟨p + 1, p, t, by go_num, rfl, rfl, by omega, HM, by trivial⟩)
                case measure => simp [intOf]; omega
              · go_wp2
                go_roundw
                case rel =>
                  have HM : Hid (p + 1 = 0 ∨ ∃ m, p + 1 = m + 1 ∧ bestTo l m = (p, t)) := .inr ⟨p, rfl, c3.out⟩
                  first
                    | exact ⟨p + 1, p, t, by go_num, rfl, rfl, by omega, HM, by trivial⟩
                    | ((repeat apply Exists.intro); refine ⟨?_, rfl⟩; exact ⟨p + 1, p, t, by go_num, rfl, rfl, by omega, HM, by trivial⟩)
                case measure => simp [intOf]; omega
              · go_wp2
                go_roundw
                case rel =>
                  have HM : Hid (p + 1 = 0 ∨ ∃ m, p + 1 = m + 1 ∧ bestTo l m = (bp, bt)) := .inr ⟨p, rfl, c3.out⟩
                  first
                    | exact ⟨p + 1, bp, bt, by go_num, rfl, rfl, by omega, HM, by trivial⟩
                    | ((repeat apply Exists.intro); refine ⟨?_, rfl⟩; exact ⟨p + 1, bp, bt, by go_num, rfl, rfl, by omega, HM, by trivial⟩)
                case measure => simp [intOf]; omega
        · have e3 : (bp, bt) = (bk, bs) := by
            rcases hbest.out with h | ⟨m, h, hm⟩
            · omega
            · have : m = 24 := by omega
              subst this
              rw [← hm, ← HR.out]
          cases e3
          go_wp2
          go_ret2
          exact ⟨rfl, rfl⟩

end Go.Proofs.YtlonnoapbfjomabGreat
