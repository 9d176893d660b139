/- FieldOrder: the walk of the law. -/
import Derived.Test.YtdfgceplgcblkaaFld3
namespace Go.Proofs.Ytdfgceplgcblkaa
set_option linter.unusedVariables false
set_option linter.unusedSimpArgs false
open Go.RowKit Dg

theorem split_div (A j : Nat) : A / 2 ^ (8 * j) = 256 * (A / 2 ^ (8 * (j + 1))) + A / 2 ^ (8 * j) % 256 := by
  rw [div_step]; omega
theorem order_same (A B j : Nat) (h : A / 2 ^ (8 * (j + 1)) = B / 2 ^ (8 * (j + 1))) (hx : A / 2 ^ (8 * j) % 256 = B / 2 ^ (8 * j) % 256) : A / 2 ^ (8 * j) = B / 2 ^ (8 * j) := by
  rw [split_div A, split_div B, h, hx]
theorem lt_of_div (A B P : Nat) (h : A / P < B / P) : A < B := by
  apply Nat.lt_of_not_le
  intro hle
  have := Nat.div_le_div_right (c := P) hle
  omega
theorem order_less (A B j : Nat) (h : A / 2 ^ (8 * (j + 1)) = B / 2 ^ (8 * (j + 1))) (hx : A / 2 ^ (8 * j) % 256 ≠ B / 2 ^ (8 * j) % 256) : decide (A / 2 ^ (8 * j) % 256 < B / 2 ^ (8 * j) % 256) = decide (A < B) := by
  have h1 := split_div A j
  have h2 := split_div B j
  rw [h] at h1
  by_cases hlt : A / 2 ^ (8 * j) % 256 < B / 2 ^ (8 * j) % 256
  · rw [decide_eq_true hlt, decide_eq_true (lt_of_div A B (2 ^ (8 * j)) (by omega))]
  · have := lt_of_div B A (2 ^ (8 * j)) (by omega)
    rw [decide_eq_false hlt, decide_eq_false (by omega)]

theorem own_bs {w : World} {base g n c : Nat} {l : List Nat} (h : w.ownsRow base 5 1 (.slice (some ⟨g, 0, none⟩) n c) n (u8s l)) : Bs w (some ⟨g, 0, none⟩) c l := by
  have hl : l.length = n := by have := h.1; simpa using this
  have h1 := own_cap h
  refine ⟨?_, by omega, fun e => by cases e⟩
  rw [hl]
  exact SlAt.of_owns h
/-- Join of four rows. -/
theorem join4 (w : World) (gx gy bx bY k A B : Nat) (hx : w.ownsRow bx 5 1 (.slice (some ⟨gx, 0, none⟩) k k) k (u8s (byteN A k))) (hy : w.ownsRow bY 5 1 (.slice (some ⟨gy, 0, none⟩) k k) k (u8s (byteN B k))) (hk : k ≤ 8) :
    Calls Try.prog 22 #[.slice (some ⟨w.heap.size, 0, none⟩) 4 4] (w.alloc (.cells #[.slice (some ⟨gx, 0, none⟩) k k, .slice (some ⟨gy, 0, none⟩) k k, .slice none 0 0, .slice (some ⟨gx, 0, none⟩) k k] 23)) fun e w' => ∃ va vc t, e = .returned (.slice va t vc) ∧ (t : Int) = 3 * (k : Int) ∧ Below w.heap.size w w' := by
  have hb : Below w.heap.size w (w.alloc (.cells #[.slice (some ⟨gx, 0, none⟩) k k, .slice (some ⟨gy, 0, none⟩) k k, .slice none 0 0, .slice (some ⟨gx, 0, none⟩) k k] 23)) := (Below.refl _ _).alloc (Nat.le_refl _) _
  have hR : RowsOf (w.alloc (.cells #[.slice (some ⟨gx, 0, none⟩) k k, .slice (some ⟨gy, 0, none⟩) k k, .slice none 0 0, .slice (some ⟨gx, 0, none⟩) k k] 23)) (some ⟨w.heap.size, 0, none⟩) [((some ⟨gx, 0, none⟩, k), byteN A k), ((some ⟨gy, 0, none⟩, k), byteN B k), ((none, 0), []), ((some ⟨gx, 0, none⟩, k), byteN A k)] := by
    intro r p hp
    refine ⟨w.heap.size, 0, rfl, ?_⟩
    match r, hp with
    | 0, hp => simp at hp; subst hp; exact ⟨by simp, (own_bs hx).below hb⟩
    | 1, hp => simp at hp; subst hp; exact ⟨by simp, (own_bs hy).below hb⟩
    | 2, hp => simp at hp; subst hp; exact ⟨by simp, ⟨SlAt.nil _, Nat.le_refl _, fun _ => rfl⟩⟩
    | 3, hp => simp at hp; subst hp; exact ⟨by simp, (own_bs hx).below hb⟩
  refine (fjoin_any _ _ _ _ hR (by simp) (by simp [joined]; omega)).mono ?_
  rintro e w' ⟨v, rfl, ho, hb'⟩
  obtain ⟨va, vc, rfl, _⟩ := OwnBytes.bs ho
  exact ⟨va, vc, _, rfl, by simp [joined]; omega, hb.trans (hb'.mono (by simp))⟩

set_option maxRecDepth 100000 in
set_option maxHeartbeats 4000000 in
theorem forder_any (W : World) (a0 b0 w0 : Int) (ha0 : I64 a0) (hb0 : I64 b0) (hw0 : I64 w0) :
    Calls Try.prog 7 #[.int .i64 a0, .int .i64 b0, .int .i64 w0] W fun e W' => e = .returned (.bool true) ∧ Below W.heap.size W W' := by
  obtain ⟨k0, hk0⟩ : ∃ k : Nat, k = (w0 % 7).toNat := ⟨_, rfl⟩
  have HK : Hid (w0 % 7 = (k0 : Int)) := by show _ = _; omega
  obtain ⟨k, hk⟩ : ∃ k : Nat, k = k0 + 1 := ⟨_, rfl⟩
  have hkk : 1 + (k0 : Int) = (k : Int) := by omega
  have hk7 : k ≤ 7 := by omega
  have hk1 : 1 ≤ k := by omega
  obtain ⟨P, hP⟩ : ∃ P : Nat, P = 2 ^ (8 * k) := ⟨_, rfl⟩
  have hPw : wrap64 (2 ^ (8 * k)) = (P : Int) := by rw [hP]; exact wrap64_pow (8 * k) (by omega)
  have hP0 : 1 ≤ P ∧ P ≤ 72057594037927936 := by
    have h1 : 2 ^ (8 * k) ≤ 2 ^ 56 := Nat.pow_le_pow_right (by decide) (by omega)
    have h2 : (2 : Nat) ^ 56 = 72057594037927936 := by decide
    have h3 : 0 < 2 ^ (8 * k) := Nat.pow_pos (by decide)
    omega
  obtain ⟨hP1, hP2⟩ := hP0
  have HP : Hid (P = 2 ^ (8 * k)) := hP
  obtain ⟨A, hA⟩ : ∃ A : Nat, A = (a0 % (P : Int)).toNat := ⟨_, rfl⟩
  obtain ⟨B, hB⟩ : ∃ B : Nat, B = (b0 % (P : Int)).toNat := ⟨_, rfl⟩
  have hA0 := Int.emod_nonneg a0 (show (P : Int) ≠ 0 by omega)
  have hB0 := Int.emod_nonneg b0 (show (P : Int) ≠ 0 by omega)
  have hA1 := Int.emod_lt_of_pos a0 (show (0 : Int) < P by omega)
  have hB1 := Int.emod_lt_of_pos b0 (show (0 : Int) < P by omega)
  have HA : Hid (a0 % (P : Int) = (A : Int)) := by show _ = _; omega
  have HB : Hid (b0 % (P : Int) = (B : Int)) := by show _ = _; omega
  have hAP : A < P := by omega
  have hBP : B < P := by omega
  have HAP : Hid (A / 2 ^ (8 * k) = B / 2 ^ (8 * k)) := by show _ = _; rw [← hP, Nat.div_eq_of_lt hAP, Nat.div_eq_of_lt hBP]
  have IA : Hid (I64 (A : Int)) := by show I64 _; unfold I64; omega
  have IB : Hid (I64 (B : Int)) := by show I64 _; unfold I64; omega
  obtain ⟨L, hL⟩ : ∃ L : Bool, L = decide (A < B) := ⟨_, rfl⟩
  have HL : Hid (L = decide (A < B)) := hL
  have hL' : decide ((A : Int) < (B : Int)) = L := by rw [hL]; simp
  obtain ⟨ha1, ha2⟩ := ha0
  obtain ⟨hb1, hb2⟩ := hb0
  obtain ⟨hw1, hw2⟩ := hw0
  clear hk0 hk hP hA hB hA0 hB0 hA1 hB1 hL
  go_enter Try.func7, Try.ntmps7
  go_wp2_with fail
  refine (within_any w0 7 W hw1 hw2 (by decide) (by decide)).mono ?_
  rw [HK.out]
  rintro e w ⟨rfl, rfl⟩
  go_wp2_with fail
  refine (within_any a0 P W ha1 ha2 (by omega) (by omega)).mono ?_
  rw [HA.out]
  rintro e w ⟨rfl, rfl⟩
  go_wp2_with fail
  refine (within_any b0 P W hb1 hb2 (by omega) (by omega)).mono ?_
  rw [HB.out]
  rintro e w ⟨rfl, rfl⟩
  go_wp2_with fail
  refine (fput_any W A k IA.out (by unfold I64; omega) A k (by omega) (by omega)).mono ?_
  rintro e w1 ⟨rfl, ho1, hb1⟩
  have HO1 : Hid (w1.ownsRow W.heap.size 5 1 (.slice (some ⟨W.heap.size, 0, none⟩) k k) k (u8s (byteN A k))) := ho1
  have HB1 : Hid (Below W.heap.size W w1) := hb1
  have hs1 : W.heap.size < w1.heap.size := (ho1.lt _ rfl).2
  clear ho1 hb1
  go_wp2_with fail
  refine (fput_any w1 B k IB.out (by unfold I64; omega) B k (by omega) (by omega)).mono ?_
  rintro e w2 ⟨rfl, ho2, hb2⟩
  have HX : Hid (w2.ownsRow W.heap.size 5 1 (.slice (some ⟨W.heap.size, 0, none⟩) k k) k (u8s (byteN A k))) := ownsRow_other HO1.out (F := fun _ => False) (Kept.of_below hb2) (fun _ _ h => h)
  have HY : Hid (w2.ownsRow w1.heap.size 5 1 (.slice (some ⟨w1.heap.size, 0, none⟩) k k) k (u8s (byteN B k))) := ho2
  have HB2 : Hid (Below W.heap.size W w2) := HB1.out.trans (hb2.mono (by omega))
  have hs2 : w1.heap.size < w2.heap.size := (ho2.lt _ rfl).2
  clear ho2 hb2 HO1 HB1
  obtain ⟨gx, hgx⟩ : ∃ g, g = W.heap.size := ⟨_, rfl⟩
  obtain ⟨gy, hgy⟩ : ∃ g, g = w1.heap.size := ⟨_, rfl⟩
  rw [← hgx] at HX ⊢
  rw [← hgy] at HY ⊢
  have HGX : Hid (gx = W.heap.size) := hgx
  clear hgx hgy
  go_wp2_with fail
  go_loopw [9, 10, 11] (fun ls dn i wr => ∃ (j m : Nat) (d l : Bool), j ≤ k ∧ i = .int .i64 ((j : Int) - 1) ∧ dn = .bool d ∧ ls = .bool l ∧ Hid ((d = false ∧ l = false ∧ A / 2 ^ (8 * j) = B / 2 ^ (8 * j)) ∨ (d = true ∧ l = L)) ∧ wr = w2.drewN m) (fun _ _ i _ => (intOf i + 1).toNat)
  case atStart => exact ⟨k, 0, false, false, Nat.le_refl _, rfl, rfl, rfl, .inl ⟨rfl, rfl, HAP.out⟩, rfl⟩
  case round =>
    obtain ⟨j, m, d, l, hj, rfl, rfl, rfl, hd, rfl⟩ := hrel
    by_cases hin : 0 < j ∧ d = false
    · obtain ⟨hj0, rfl⟩ := hin
      obtain ⟨i, rfl⟩ : ∃ i, j = i + 1 := ⟨j - 1, by omega⟩
      have hik : i < k := by omega
      obtain ⟨x, hx⟩ : ∃ x, x = A / 2 ^ (8 * i) % 256 := ⟨_, rfl⟩
      obtain ⟨y, hy⟩ : ∃ y, y = B / 2 ^ (8 * i) % 256 := ⟨_, rfl⟩
      have hcx : w2.cell? ⟨gx, i, none⟩ = some (.int .u8 (x : Int)) := by rw [hx]; exact (own_cell HX.out (byteN_get A k i hik)).1
      have hcy : w2.cell? ⟨gy, i, none⟩ = some (.int .u8 (y : Int)) := by rw [hy]; exact (own_cell HY.out (byteN_get B k i hik)).1
      have hdd : A / 2 ^ (8 * (i + 1)) = B / 2 ^ (8 * (i + 1)) := by
        rcases hd.out with ⟨_, _, h⟩ | ⟨h, _⟩
        · exact h
        · cases h
      have HN : Hid (((x != y) = false ∧ decide (x < y) = false ∧ A / 2 ^ (8 * i) = B / 2 ^ (8 * i)) ∨ ((x != y) = true ∧ decide (x < y) = L)) := by
        by_cases hxy : x = y
        · exact .inl ⟨by simp [hxy], by simp [hxy], order_same A B i hdd (by rw [← hx, ← hy, hxy])⟩
        · refine .inr ⟨by simp [hxy], ?_⟩
          rw [HL.out, hx, hy]
          exact order_less A B i hdd (by rw [← hx, ← hy]; exact hxy)
      have ei : ((i + 1 : Nat) : Int) - 1 = (i : Int) := by omega
      rw [ei]
      clear hx hy hdd hd ei HAP
      go_wp2_with fail
      go_quiet (fail)
      go_wp2_with fail
      have e : ((x : Int) != (y : Int)) = (x != y) := by rw [Bool.eq_iff_iff]; simp; omega
      refine ⟨⟨i, m + nq, ((x : Int) != (y : Int)), decide (x < y), by omega, rfl, rfl, rfl, ?_, rfl⟩, by (simp [intOf]) <;> omega⟩
      rw [e]; exact HN
    · have HLL : Hid (l = L) := by
        rcases hd.out with ⟨h1, h2, h3⟩ | ⟨_, h⟩
        · have hj0 : j = 0 := by
            by_cases h : 0 < j
            · exact absurd ⟨h, h1⟩ hin
            · omega
          rw [hj0] at h3
          simp at h3
          show l = L
          rw [HL.out, h2, h3]; simp
        · exact h
      have hout : j = 0 ∨ (0 < j ∧ d = true) := by
        by_cases h : 0 < j
        · refine .inr ⟨h, ?_⟩
          cases d
          · exact absurd ⟨h, rfl⟩ hin
          · rfl
        · exact .inl (by omega)
      rw [HLL.out]
      clear hin hd HLL
      obtain ⟨wx, hwx⟩ : ∃ wx, wx = w2.drewN m := ⟨_, rfl⟩
      have HX' : Hid (wx.ownsRow gx 5 1 (.slice (some ⟨gx, 0, none⟩) k k) k (u8s (byteN A k))) := by rw [hwx]; exact HX.out
      have HY' : Hid (wx.ownsRow gy 5 1 (.slice (some ⟨gy, 0, none⟩) k k) k (u8s (byteN B k))) := by rw [hwx]; exact HY.out
      have HB' : Hid (Below W.heap.size W wx) := by rw [hwx]; exact below_drewN HB2.out m
      have hsx : W.heap.size ≤ wx.heap.size := HB'.out.size
      rw [← hwx]
      clear hwx HX HY HB2
      rcases hout with rfl | ⟨hout, rfl⟩
      all_goals
        go_wp2_with fail
        refine (join4 wx gx gy gx gy k A B HX'.out HY'.out (by omega)).mono ?_
        rintro e w5 ⟨va, vc, t, rfl, ht, hb5⟩
        have HB5 : Hid (Below W.heap.size W w5) := HB'.out.trans (hb5.mono hsx)
        have hs5 : W.heap.size ≤ w5.heap.size := HB5.out.size
        clear hb5
        go_wp2_with fail
        refine (wakes4_any w5).mono ?_
        rintro e w6 ⟨rfl, hb6⟩
        have HB6 : Hid (Below W.heap.size W w6) := HB5.out.trans (hb6.mono hs5)
        clear hb6
        go_wp2
        go_ret
        exact ⟨rfl, HB6.out⟩

end Go.Proofs.Ytdfgceplgcblkaa
