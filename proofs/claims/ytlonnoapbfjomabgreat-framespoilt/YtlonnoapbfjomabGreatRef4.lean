/- The document's own answers: Of. -/
import Derived.Test.YtlonnoapbfjomabGreatRef3
namespace Go.Proofs.YtlonnoapbfjomabGreat
set_option linter.unusedVariables false
set_option linter.unusedSimpArgs false
open Go.RowKit Dg

/-- Digits as bytes. -/
def bn (ds : List Bool) : List Nat := ds.map Bool.toNat
@[simp] theorem length_bn (ds : List Bool) : (bn ds).length = ds.length := by simp [bn]
theorem bn_snoc (ds : List Bool) (d : Bool) : u8s (bn (ds ++ [d])) = u8s (bn ds) ++ [.int .u8 (d.toNat : Int)] := by simp [u8s, bn]
theorem bn_get (ds : List Bool) (j : Nat) : (u8s (bn ds))[j]? = ds[j]?.map fun d => Value.int .u8 (d.toNat : Int) := by simp [u8s, bn]; rfl

theorem BtAt.of_owns {w : World} {base : Nat} {v : Value} {ds : List Bool} (h : w.ownsRow base 5 1 v ds.length (u8s (bn ds))) : BtAt w v ds := by
  rcases h.2 with ⟨rfl, hn⟩ | ⟨g, cap, cur, rfl, hb, hh, hn, hm, hcs, htake⟩
  · exact Or.inl ⟨rfl, List.eq_nil_of_length_eq_zero hn⟩
  · refine Or.inr ⟨g, 0, cap, rfl, (Array.getElem?_eq_some_iff.1 hh).1, hn, hm, fun j d hd => ?_⟩
    have hj : j < ds.length := (List.getElem?_eq_some_iff.1 hd).1
    have e : (u8s (bn ds))[j]? = some (.int .u8 (d.toNat : Int)) := by rw [bn_get, hd]; rfl
    rw [← htake, List.getElem?_take, if_pos (by omega)] at e
    simp only [World.cell?, hh]
    simpa using e

theorem bit_k (x k : Nat) (d : Bool) (hx : x < 256) (hd : d = ((x : Int) / 2 ^ k % 2 == 1)) : bits BinOp.and IntKind.u8 ((x : Int) / 2 ^ k) 1 = (d.toNat : Int) := by
  have e : (x : Int) / 2 ^ k = ((x / 2 ^ k : Nat) : Int) := by push_cast; rfl
  have hlt : x / 2 ^ k < 256 := Nat.lt_of_le_of_lt (Nat.div_le_self _ _) hx
  rw [e] at hd ⊢
  have e1 : (1 : Int) = ((1 : Nat) : Int) := rfl
  rw [e1, u8_and_nat _ _ hlt (by decide), nat_mask1, hd]
  have h2 : x / 2 ^ k % 2 = 0 ∨ x / 2 ^ k % 2 = 1 := by omega
  have e3 : ((x / 2 ^ k : Nat) : Int) % 2 = ((x / 2 ^ k % 2 : Nat) : Int) := by push_cast; rfl
  rw [e3]
  rcases h2 with h | h <;> rw [h] <;> rfl

theorem dig8 (x : Nat) : dig (x : Int) 8 = (List.range 8).map (digitOf x) := by
  have h : ∀ k j : Nat, 7 - j = k → ((x : Int) / 2 ^ k % 2 == 1) = digitOf x j := by
    intro k j hk
    unfold digitOf
    rw [hk]
    have e : (x : Int) / 2 ^ k % 2 = ((x / 2 ^ k % 2 : Nat) : Int) := by push_cast; rfl
    rw [e]
    have h2 : x / 2 ^ k % 2 = 0 ∨ x / 2 ^ k % 2 = 1 := by omega
    rcases h2 with h | h <;> rw [h] <;> rfl
  have e : List.range 8 = [0, 1, 2, 3, 4, 5, 6, 7] := by decide
  rw [e]
  simp only [dig, List.map_cons, List.map_nil]
  rw [h 7 0 rfl, h 6 1 rfl, h 5 2 rfl, h 4 3 rfl, h 3 4 rfl, h 2 5 rfl, h 1 6 rfl, h 0 7 rfl]

theorem unpack_snoc (l : List Nat) (x : Nat) : unpack (l ++ [x]) = unpack l ++ dig (x : Int) 8 := by rw [dig8]; simp [unpack]

theorem Tryz.underlyingBits : Tryz.prog.underlying 35 = some (.slice 5) := by kernel_rfl

/-- What of bytes a loop has laid as digits. -/
def OfAt (w wr : World) (v : Value) (ds : List Bool) : Prop := wr.ownsRow w.heap.size 5 1 v ds.length (u8s (bn ds)) ∧ Below w.heap.size w wr

set_option maxHeartbeats 2000000 in
theorem of_any (w : World) (v : Value) (l : List Nat) (h : SlAt w v l) (hl : l.length ≤ 1000000) (hb : ∀ x ∈ l, x < 256) :
    Calls Tryz.prog 33 #[v] w fun e w' => ∃ v', e = .returned v' ∧ w'.ownsRow w.heap.size 5 1 v' (unpack l).length (u8s (bn (unpack l))) ∧ Below w.heap.size w w' := by
  obtain ⟨i0, hi, hz0, hz1, hz2⟩ := info_parts Tryz.info5
  obtain ⟨ao, cap, rfl, hc⟩ := h
  have HC : Hid (∀ j x, l[j]? = some x → ∃ b off, ao = some ⟨b, off, none⟩ ∧ w.cell? ⟨b, off + j, none⟩ = some (.int .u8 ((x : Nat) : Int))) := hc
  have HB : Hid (∀ x ∈ l, x < 256) := hb
  clear hc hb
  go_enter Tryz.func33, Tryz.ntmps33
  go_wp2
  go_loopw [3, 8] (fun out i wr => ∃ j : Nat, j ≤ l.length ∧ i = .int .i64 j ∧ Hid (OfAt w wr out (unpack (l.take j)))) (fun _ i _ => l.length - (intOf i).toNat)
  case atStart => exact ⟨0, Nat.zero_le _, rfl, World.ownsRow_nil _ _ _ _, Below.refl _ _⟩
  case round =>
    obtain ⟨j, hj, rfl, hof⟩ := hrel
    by_cases hjl : j < l.length
    · obtain ⟨x, hx⟩ : ∃ x, l[j]? = some x := ⟨l[j], by simp [hjl]⟩
      obtain ⟨b, off, rfl, hcell⟩ := HC.out j x hx
      have hx256 := HB.out x (List.mem_of_getElem? hx)
      have HT : Hid (unpack (l.take (j + 1)) = unpack (l.take j) ++ dig (x : Int) 8) := by
        show _ = _
        rw [List.take_add_one, hx]; exact unpack_snoc _ _
      have hbw : b < w.heap.size := World.block_lt_of_cell? w _ hcell
      have HCELL : Hid (w.cell? ⟨b, off + j, none⟩ = some (.int .u8 (x : Int))) := hcell
      have HLEN : Hid ((unpack (l.take j)).length ≤ 8 * l.length) := by show _ ≤ _; simp; omega
      clear hx hcell
      go_wp2
      go_loopw [3, 5] (fun out k wr2 => ∃ (m : Nat) (rs : List Bool), m ≤ 8 ∧ k = .int .i64 ((m : Int) - 1) ∧ Hid (rs ++ dig (x : Int) m = unpack (l.take j) ++ dig (x : Int) 8) ∧ Hid (OfAt w wr2 out rs)) (fun _ k _ => (intOf k + 1).toNat)
      case atStart => exact ⟨8, unpack (l.take j), Nat.le_refl _, rfl, rfl, hof⟩
      case round =>
        obtain ⟨m, rs, hm, rfl, hrs, hof2⟩ := hrel
        match m, hm, hrs with
        | 0, _, hrs =>
          go_wp2
          go_roundw
          case rel =>
            refine ⟨j + 1, by omega, by go_num, ?_⟩
            have h0 := hrs.out
            rw [show dig (x : Int) 0 = [] from rfl, List.append_nil] at h0
            rw [HT.out, ← h0]
            exact hof2
          case measure => simp [intOf]; omega
        | k + 1, hm, hrs =>
          have ek : ((k + 1 : Nat) : Int) - 1 = (k : Int) := by omega
          rw [ek]
          obtain ⟨d, hd⟩ : ∃ d : Bool, d = ((x : Int) / 2 ^ k % 2 == 1) := ⟨_, rfl⟩
          have hbit := bit_k x k d hx256 hd
          have HD : Hid (d = ((x : Int) / 2 ^ k % 2 == 1)) := hd
          clear hd ek
          obtain ⟨ho, hbl⟩ := hof2.out
          have hcell : wr.cell? ⟨b, off + j, none⟩ = some (.int .u8 (x : Int)) := by rw [hbl.cell (p := ⟨b, off + j, none⟩) hbw]; exact HCELL.out
          have HOWN : Hid (wr.ownsRow w.heap.size 5 1 u3 rs.length (u8s (bn rs))) := ho
          have HBL : Hid (Below w.heap.size w wr) := hbl
          have hrl : rs.length ≤ 8000016 := by
            have h1 := congrArg List.length hrs.out
            simp only [List.length_append, length_dig] at h1
            have := HLEN.out
            omega
          have hsz : w.heap.size ≤ wr.heap.size := hbl.size
          clear ho hbl
          go_wp2_with (at_builtin; go_must (refine wpList_append_mine _ rfl (.tmp 15) (.tmp 24) 35 rfl w.heap.size 5 i0 (.int .u8 0) 1 1 Tryz.underlyingBits hi hz0 hz1 hz2 rfl (by decide) _ rs.length (u8s (bn rs)) rfl (HOWN.out.alloc _) ⟨wr.heap.size, 0, none⟩ 1 1 [.int .u8 (d.toNat : Int)] rfl rfl ?c1 ?c2 (by decide) ?b1 ?b2 ?b3 ?_))
          case c1 => intro j u hj; match j, hj with | 0, hj => simp at hj; subst hj; simp [Addr.add]
          case c2 => intro u hu; simp at hu; subst hu; rfl
          case b1 => unfold maxLen; omega
          case b2 => omega
          case b3 => simp; omega
          intro g cap2 w2 H1 HG HN
          go_wp2
          go_roundw
          case rel =>
            refine ⟨k, rs ++ [d], by omega, rfl, ?_, ?_, ?_⟩
            · show _ = _
              rw [← hrs.out, HD.out]
              simp [dig]
            · have := H1.out
              rw [← bn_snoc] at this
              simpa using this
            · refine (HBL.out.alloc hsz _).grown HG.out (by simp; omega) (fun k hk => ?_)
              exact (HOWN.out.lt k hk).1
          case measure => simp [intOf]
    · go_wp2
      go_ret
      have e : j = l.length := by omega
      have h1 := hof.out
      rw [e, List.take_length] at h1
      exact ⟨_, rfl, h1.1, h1.2⟩

end Go.Proofs.YtlonnoapbfjomabGreat
