/- Walks over moved, Slow and the document's own sum. -/
import Derived.Test.YthcjgcfmodkiiaaRef5
import Derived.Test.YthcjgcfmodkiiaaCrc1
import Derived.Laws.BitsAll
namespace Go.Proofs.Ythcjgcfmodkiiaa
set_option linter.unusedVariables false
set_option linter.unusedSimpArgs false
open Go.RowKit Dg Cr

/-- A sum as a value. -/
abbrev u32v (v : BitVec 32) : Value := .int .u32 ((v.toNat : Nat) : Int)

theorem u32_val (v : BitVec 32) : v.toNat < 4294967296 := v.isLt
theorem up_num (v : BitVec 32) (x : Nat) (hx : x = v.toNat) : bits BinOp.xor IntKind.u32 ((x : Int) * 2 % 4294967296) ((x : Int) / 2147483648 * 79764919) = (((up v).toNat : Nat) : Int) := by
  have hlt := v.isLt
  rw [← hx] at hlt
  have e1 : (x : Int) * 2 % 4294967296 = ((x * 2 % 4294967296 : Nat) : Int) := by omega
  have e2 : (x : Int) / 2147483648 * 79764919 = ((x / 2147483648 * 79764919 : Nat) : Int) := by omega
  rw [e1, e2, u32_xor_nat _ _ (by omega) (by omega)]
  congr 1
  unfold up
  rw [BitVec.toNat_xor, BitVec.toNat_shiftLeft, BitVec.msb_eq_decide, ← hx, Nat.shiftLeft_eq]
  by_cases h : 2147483648 ≤ x
  · have e3 : x / 2147483648 = 1 := by omega
    simp [h, e3]
  · have e3 : x / 2147483648 = 0 := by omega
    simp [h, e3]
theorem up_num1 (v : BitVec 32) (x : Nat) (hx : x = v.toNat) (h : 2147483648 ≤ x) : bits BinOp.xor IntKind.u32 ((x : Int) * 2 % 4294967296) 79764919 = (((up v).toNat : Nat) : Int) := by
  have h1 := up_num v x hx
  have hlt := v.isLt
  have e : (x : Int) / 2147483648 = 1 := by omega
  rw [e] at h1
  exact h1
theorem up_num0 (v : BitVec 32) (x : Nat) (hx : x = v.toNat) (h : x < 2147483648) : (x : Int) * 2 % 4294967296 = (((up v).toNat : Nat) : Int) := by
  have h1 := up_num v x hx
  have e : (x : Int) / 2147483648 = 0 := by omega
  have e1 : (x : Int) * 2 % 4294967296 = ((x * 2 % 4294967296 : Nat) : Int) := by omega
  rw [e, e1, Int.zero_mul, show (0 : Int) = ((0 : Nat) : Int) from rfl, u32_xor_nat _ _ (by omega) (by omega), Nat.xor_zero] at h1
  rw [e1]; exact h1
theorem up_num0' (v : BitVec 32) (x : Nat) (hx : x = v.toNat) (h : x < 2147483648) : (x : Int) * 2 = (((up v).toNat : Nat) : Int) := by
  rw [← up_num0 v x hx h]; omega
theorem upN_next (j : Nat) (v : BitVec 32) : upN (j + 1) v = up (upN j v) := by rw [← upN_add j 1]; rfl
theorem add_num (v : BitVec 32) (x c : Nat) (hx : x = v.toNat) (hc : c < 256) : bits BinOp.xor IntKind.u32 (x : Int) ((c : Int) * 16777216) = (((v ^^^ (BitVec.ofNat 32 c <<< 24)).toNat : Nat) : Int) := by
  have hlt := v.isLt
  rw [← hx] at hlt
  have e1 : (c : Int) * 16777216 = ((c * 16777216 : Nat) : Int) := by omega
  rw [e1, u32_xor_nat _ _ (by omega) (by omega)]
  congr 1
  rw [BitVec.toNat_xor, ← hx, BitVec.toNat_shiftLeft, BitVec.toNat_ofNat, Nat.shiftLeft_eq]
  congr 1
  omega

set_option maxHeartbeats 400000 in
theorem moved_any (v : BitVec 32) (w : World) :
    Calls Try.prog 24 #[u32v v] w fun e w' => e = .returned (u32v (upN 8 v)) ∧ w = w' := by
  go_enter Try.func24, Try.ntmps24
  go_wp2
  go_loopw [0, 4] (fun s i wr => ∃ j x : Nat, j ≤ 8 ∧ i = .int .i64 j ∧ s = .int .u32 (x : Int) ∧ Hid (x = (upN j v).toNat) ∧ w = wr) (fun _ i _ => 8 - (intOf i).toNat)
  case atStart => exact ⟨0, v.toNat, by omega, rfl, rfl, rfl, rfl⟩
  case round =>
    obtain ⟨j, x, hj, rfl, rfl, hx, rfl⟩ := hrel
    have hx32 : x < 4294967296 := by rw [hx.out]; exact (upN j v).isLt
    by_cases hj8 : j < 8
    · go_wp2
      rw [up_num (upN j v) x hx.out]
      go_roundw
      case rel => exact ⟨j + 1, _, by omega, by go_num, rfl, by rw [upN_next]; rfl, by trivial⟩
      case measure => simp [intOf]; omega
    · have e : j = 8 := by omega
      go_wp2
      go_ret
      rw [hx.out, e]
      exact ⟨rfl, rfl⟩

set_option maxHeartbeats 1000000 in
theorem slow_any (w : World) (b : Value) (l : List Nat) (h : SlAt w b l) (hl : l.length ≤ 1000000) (h256 : ∀ x ∈ l, x < 256) :
    Calls Try.prog 18 #[b] w fun e w' => e = .returned (u32v (crc ones l)) ∧ w = w' := by
  obtain ⟨a1, c1, rfl, hc1⟩ := h
  have H1 : Hid (∀ j x, l[j]? = some x → ∃ b off, a1 = some ⟨b, off, none⟩ ∧ w.cell? ⟨b, off + j, none⟩ = some (.int .u8 ((x : Nat) : Int))) := hc1
  have H2 : Hid (∀ x ∈ l, x < 256) := h256
  clear hc1 h256
  go_enter Try.func18, Try.ntmps18
  go_wp2
  go_loopw [3, 8] (fun s i wr => ∃ j x : Nat, j ≤ l.length ∧ i = .int .i64 j ∧ s = .int .u32 (x : Int) ∧ Hid (x = (crc ones (l.take j)).toNat) ∧ w = wr) (fun _ i _ => l.length - (intOf i).toNat)
  case atStart => exact ⟨0, 4294967295, by omega, rfl, rfl, by show _ = _; rw [List.take_zero]; rfl, rfl⟩
  case round =>
    obtain ⟨j, x, hj, rfl, rfl, hx, rfl⟩ := hrel
    have hx32 : x < 4294967296 := by rw [hx.out]; exact BitVec.isLt _
    by_cases hjl : j < l.length
    · obtain ⟨b1, o1, rfl, e1⟩ := H1.out j l[j] (by simp [hjl])
      obtain ⟨c, hc⟩ : ∃ c : Nat, c = l[j] := ⟨_, rfl⟩
      have hc256 : c < 256 := by rw [hc]; exact H2.out _ (by simp)
      have HT : Hid (l[j]? = some c) := by show _ = _; rw [hc]; simp [hjl]
      rw [← hc] at e1
      clear hc
      go_wp2_with (go_at_call 24; rw [add_num (crc ones (l.take j)) x c hx.out hc256]; refine (moved_any _ _).mono ?_; rintro e w1 ⟨rfl, rfl⟩)
      go_roundw
      case rel => exact ⟨j + 1, _, by omega, by go_num, rfl, by rw [crc_take _ _ _ _ HT.out]; rfl, by trivial⟩
      case measure => simp [intOf]; omega
    · have e : j = l.length := by omega
      go_wp2
      go_ret
      rw [hx.out, e, List.take_length]
      exact ⟨rfl, rfl⟩

set_option maxHeartbeats 1000000 in
theorem radd_any (w : World) (v : BitVec 32) (b : Value) (l : List Nat) (h : SlAt w b l) (hl : l.length ≤ 1000000) (h256 : ∀ x ∈ l, x < 256) :
    Calls Try.prog 20 #[u32v v, b] w fun e w' => e = .returned (u32v (crc v l)) ∧ w = w' := by
  obtain ⟨a1, c1, rfl, hc1⟩ := h
  have H1 : Hid (∀ j x, l[j]? = some x → ∃ b off, a1 = some ⟨b, off, none⟩ ∧ w.cell? ⟨b, off + j, none⟩ = some (.int .u8 ((x : Nat) : Int))) := hc1
  have H2 : Hid (∀ x ∈ l, x < 256) := h256
  clear hc1 h256
  go_enter Try.func20, Try.ntmps20
  go_wp2
  go_loopw [0, 10] (fun s i wr => ∃ j x : Nat, j ≤ l.length ∧ i = .int .i64 j ∧ s = .int .u32 (x : Int) ∧ Hid (x = (crc v (l.take j)).toNat) ∧ w = wr) (fun _ i _ => l.length - (intOf i).toNat)
  case atStart => exact ⟨0, v.toNat, by omega, rfl, rfl, rfl, rfl⟩
  case round =>
    obtain ⟨j, x, hj, rfl, rfl, hx, rfl⟩ := hrel
    have hx32 : x < 4294967296 := by rw [hx.out]; exact BitVec.isLt _
    by_cases hjl : j < l.length
    · obtain ⟨b1, o1, rfl, e1⟩ := H1.out j l[j] (by simp [hjl])
      obtain ⟨c, hc⟩ : ∃ c : Nat, c = l[j] := ⟨_, rfl⟩
      have hc256 : c < 256 := by rw [hc]; exact H2.out _ (by simp)
      have HT : Hid (l[j]? = some c) := by show _ = _; rw [hc]; simp [hjl]
      rw [← hc] at e1
      clear hc
      have hjlb : decide (j < l.length) = true := by simp [hjl]
      obtain ⟨y, hy⟩ : ∃ y : BitVec 32, y = crc v (l.take j) ^^^ (BitVec.ofNat 32 c <<< 24) := ⟨_, rfl⟩
      have HY : Hid (y = crc v (l.take j) ^^^ (BitVec.ofNat 32 c <<< 24)) := hy
      have HA := add_num (crc v (l.take j)) x c hx.out hc256
      rw [← hy] at HA
      have HA' : Hid (bits BinOp.xor IntKind.u32 (x : Int) ((c : Int) * 16777216) = ((y.toNat : Nat) : Int)) := HA
      clear hy HA
      go_wp2
      rw [HA'.out]
      go_loopw [0, 6] (fun s i wr => ∃ k z : Nat, k ≤ 8 ∧ i = .int .i64 k ∧ s = .int .u32 (z : Int) ∧ Hid (z = (upN k y).toNat) ∧ w = wr) (fun _ i _ => 8 - (intOf i).toNat)
      case atStart => exact ⟨0, y.toNat, by omega, rfl, rfl, rfl, rfl⟩
      case round =>
        obtain ⟨k, z, hk, rfl, rfl, hz, rfl⟩ := hrel
        have hz32 : z < 4294967296 := by rw [hz.out]; exact BitVec.isLt _
        by_cases hk8 : k < 8
        · have hkb : decide (k < 8) = true := by simp [hk8]
          by_cases hz1 : 2147483648 ≤ z
          · have hz2 : (z : Int) / 2147483648 = 1 := by omega
            go_wp2
            rw [up_num1 (upN k y) z hz.out hz1]
            go_roundw
            case rel => exact ⟨k + 1, _, by omega, by go_num, rfl, by rw [upN_next]; rfl, by trivial⟩
            case measure => simp [intOf]; omega
          · have hz2 : (z : Int) / 2147483648 = 0 := by omega
            go_wp2
            rw [up_num0' (upN k y) z hz.out (by omega)]
            go_roundw
            case rel => exact ⟨k + 1, _, by omega, by go_num, rfl, by rw [upN_next]; rfl, by trivial⟩
            case measure => simp [intOf]; omega
        · have e : k = 8 := by omega
          go_wp2
          go_roundw
          case rel => exact ⟨j + 1, _, by omega, by go_num, rfl, by show _ = _; rw [crc_take _ _ _ _ HT.out, hz.out, e, HY.out]; rfl, by trivial⟩
          case measure => simp [intOf]; omega
    · have e : j = l.length := by omega
      go_wp2
      go_ret
      rw [hx.out, e, List.take_length]
      exact ⟨rfl, rfl⟩

theorem rsum_any (w : World) (b : Value) (l : List Nat) (h : SlAt w b l) (hl : l.length ≤ 1000000) (h256 : ∀ x ∈ l, x < 256) :
    Calls Try.prog 17 #[b] w fun e w' => e = .returned (u32v (crc ones l)) ∧ w = w' := by
  have HS : Hid (SlAt w b l) := h
  have H2 : Hid (∀ x ∈ l, x < 256) := h256
  have e1 : Value.int .u32 4294967295 = u32v ones := rfl
  have HE : Hid (Value.int .u32 4294967295 = u32v ones) := e1
  clear h h256 e1
  go_enter Try.func17, Try.ntmps17
  go_wp2_with (go_at_call 20; rw [HE.out]; refine (radd_any w ones b l HS.out hl H2.out).mono ?_; rintro e w1 ⟨rfl, rfl⟩)
  go_ret
  exact ⟨rfl, rfl⟩

end Go.Proofs.Ythcjgcfmodkiiaa
