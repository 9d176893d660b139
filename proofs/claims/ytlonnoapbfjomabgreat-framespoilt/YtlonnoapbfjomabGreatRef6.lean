/- The document's own answers: Put, Ones. -/
import Derived.Test.YtlonnoapbfjomabGreatReads
import Derived.Laws.AppendOwnNone
namespace Go.Proofs.YtlonnoapbfjomabGreat
set_option linter.unusedVariables false
set_option linter.unusedSimpArgs false
open Go.RowKit Dg

/-- 'append(Bits(nil), b...)': digits in new memory. -/
theorem wpList_append_bt {P : Program} (w : World) {ops : Array Oper} {rest : List Oper} {o : Oper} {a : Act} {Q : Exit → Act → World → Prop}
    (hgd : o.guard = none) (s x : Operand) (t : TypeId) (ho : o.op = .call { callee := .builtin .append, args := #[s, x], argTypes := #[t, t] })
    (i : TypeInfo) (ht : P.underlying t = some (.slice 5)) (hi : P.info? 5 = some i) (hz : i.zero = some (.int .u8 0)) (hsize : i.size = 1) (hby : i.bytes = 1)
    (hs : a.eval s = .slice none 0 0) (v : Value) (ds : List Bool) (hx : a.eval x = v) (hbt : BtAt w v ds) (hsm : ds.length ≤ 4398046511104)
    (h : ∀ v' w', Hid (w'.ownsRow w.heap.size 5 1 v' ds.length (u8s (bn ds))) → Hid (Below w.heap.size w w') → wpList P ops Q rest (a.put o.dst v') w') : wpList P ops Q (o :: rest) a w := by
  rcases hbt with ⟨rfl, rfl⟩ | ⟨b, off, cap, rfl, hb, hl, hm, hc⟩
  · exact wpList_append_own_none hgd s x t ho w.heap.size 5 i 1 ht hi (.slice none 0 0) 0 [] hs (World.ownsRow_nil _ _ _ _) hx (h _ w (World.ownsRow_nil _ _ _ _) (Below.refl _ _))
  · refine wpList_append_own w hgd s x t ho w.heap.size 5 i (.int .u8 0) 1 1 ht hi hz hsize hby rfl (by decide) (.slice none 0 0) 0 [] hs (World.ownsRow_nil _ _ _ _) ⟨b, off, none⟩ ds.length cap (u8s (bn ds)) hx (by simp) ?_ ?_ ?_ ?_ (Nat.le_refl _) ?_
    · intro j u hu
      rw [bn_get] at hu
      obtain ⟨d, hd, rfl⟩ := Option.map_eq_some_iff.1 hu
      have hadd : (⟨b, off, none⟩ : Addr).add j = ⟨b, off + j, none⟩ := by simp [Addr.add]
      rw [hadd]
      exact hc j d hd
    · intro u hu; simp [u8s] at hu; obtain ⟨x, _, rfl⟩ := hu; rfl
    · unfold maxLen; omega
    · omega
    · intro v' w' ho' hg' _
      refine h v' w' ?_ ?_
      · show w'.ownsRow _ _ _ _ _ _
        simpa using ho'
      · exact (Below.refl _ _).grown hg' (Nat.le_refl _) (fun k hk => by cases hk)

theorem and_i64 (x : Int) (d : Bool) (hd : d = (x % 2 == 1)) : bits BinOp.and IntKind.i64 x 1 = (d.toNat : Int) := by
  show IntKind.i64.wrap ((BitVec.ofInt 64 x &&& BitVec.ofInt 64 1).toNat : Int) = _
  have e1 : (BitVec.ofInt 64 1).toNat = 1 := by decide
  rw [BitVec.toNat_and, e1, nat_mask1, BitVec.toNat_ofInt]
  have hm : ((x % ((2 ^ 64 : Nat) : Int)).toNat % 2 : Nat) = (x % 2).toNat := by
    have : ((2 ^ 64 : Nat) : Int) = 18446744073709551616 := by decide
    rw [this]; omega
  rw [hm, hd]
  have h2 : x % 2 = 0 ∨ x % 2 = 1 := by omega
  rcases h2 with h | h <;> simp [h, IntKind.wrap, IntKind.bits, IntKind.signed]

set_option maxHeartbeats 1000000 in
theorem rput_bad (w : World) (v : Value) (x n : Int) (hn : n < 0 ∨ 62 < n) :
    Calls Tryz.prog 19 #[v, .int .i64 x, .int .i64 n] w fun e w' => e = .returned (.tuple #[v, .bool false]) ∧ w = w' := by
  rcases hn with h | h
  · go_enter Tryz.func19, Tryz.ntmps19
    go_wp2
    go_ret2
    exact ⟨rfl, rfl⟩
  · have h' : 0 ≤ n := by omega
    go_enter Tryz.func19, Tryz.ntmps19
    go_wp2
    go_ret2
    exact ⟨rfl, rfl⟩

set_option maxHeartbeats 1000000 in
theorem rones_wbad (w : World) (v : Value) (n : Int) (hn : n < 0 ∨ 1024 < n) :
    Calls Tryz.prog 69 #[v, .int .i64 n] w fun e w' => e = .returned (.tuple #[v, .bool false]) ∧ w = w' := by
  rcases hn with h | h
  · go_enter Tryz.func69, Tryz.ntmps69
    go_wp2
    go_ret2
    exact ⟨rfl, rfl⟩
  · have h' : 0 ≤ n := by omega
    go_enter Tryz.func69, Tryz.ntmps69
    go_wp2
    go_ret2
    exact ⟨rfl, rfl⟩

set_option maxRecDepth 100000 in
set_option maxHeartbeats 2000000 in
theorem rput_any (w : World) (v : Value) (ds : List Bool) (x : Int) (n : Nat) (hbt : BtAt w v ds) (hsm : ds.length ≤ 1000000) (hn : n ≤ 62) :
    Calls Tryz.prog 19 #[v, .int .i64 x, .int .i64 n] w fun e w' => ∃ v', e = .returned (.tuple #[v', .bool true]) ∧ w'.ownsRow w.heap.size 5 1 v' (ds ++ dig x n).length (u8s (bn (ds ++ dig x n))) ∧ Below w.heap.size w w' := by
  obtain ⟨i0, hi, hz0, hz1, hz2⟩ := info_parts Tryz.info5
  have HBT : Hid (BtAt w v ds) := hbt
  clear hbt
  go_enter Tryz.func19, Tryz.ntmps19
  go_wp2_with (at_builtin; go_must (refine wpList_append_bt _ rfl _ (.tmp 17) 35 rfl i0 Tryz.underlyingBits hi hz0 hz1 hz2 rfl v ds rfl HBT.out (by omega) ?_))
  intro v1 w1 HO1 HB1
  go_wp2
  go_loopw [8, 9] (fun out i wr => ∃ (k : Nat) (rs : List Bool), k ≤ n ∧ i = .int .i64 ((k : Int) - 1) ∧ Hid (rs ++ dig x k = ds ++ dig x n) ∧ Hid (OfAt w wr out rs)) (fun _ i _ => (intOf i + 1).toNat)
  case atStart => exact ⟨n, ds, Nat.le_refl _, rfl, rfl, HO1.out, HB1.out⟩
  case round =>
    obtain ⟨m, rs, hm, rfl, hrs, hof2⟩ := hrel
    match m, hm, hrs with
    | 0, _, hrs =>
      go_wp2
      go_ret2
      have h0 := hrs.out
      rw [show dig x 0 = [] from rfl, List.append_nil] at h0
      refine ⟨_, rfl, ?_⟩
      rw [← h0]
      exact hof2.out
    | k + 1, hm, hrs =>
      have ek : ((k + 1 : Nat) : Int) - 1 = (k : Int) := by omega
      rw [ek]
      obtain ⟨d, hd⟩ : ∃ d : Bool, d = (x / 2 ^ k % 2 == 1) := ⟨_, rfl⟩
      have hbit := and_i64 (x / 2 ^ k) d hd
      have hd1 : d.toNat ≤ 1 := by cases d <;> decide
      have HD : Hid (d = (x / 2 ^ k % 2 == 1)) := hd
      clear hd ek
      obtain ⟨ho, hbl⟩ := hof2.out
      have HOWN : Hid (wr.ownsRow w.heap.size 5 1 u8 rs.length (u8s (bn rs))) := ho
      have HBL : Hid (Below w.heap.size w wr) := hbl
      have hrl : rs.length ≤ 1000062 := by
        have h1 := congrArg List.length hrs.out
        simp only [List.length_append, length_dig] at h1
        omega
      have hsz : w.heap.size ≤ wr.heap.size := hbl.size
      clear ho hbl
      go_wp2_with (at_builtin; go_must (refine wpList_append_mine _ rfl (.tmp 25) (.tmp 32) 35 rfl w.heap.size 5 i0 (.int .u8 0) 1 1 Tryz.underlyingBits hi hz0 hz1 hz2 rfl (by decide) _ rs.length (u8s (bn rs)) rfl (HOWN.out.alloc _) ⟨wr.heap.size, 0, none⟩ 1 1 [.int .u8 (d.toNat : Int)] rfl rfl ?c1 ?c2 (by decide) ?b1 ?b2 ?b3 ?_))
      case c1 => intro j u hj; match j, hj with | 0, hj => simp at hj; subst hj; simp [Addr.add]
      case c2 => intro u hu; simp at hu; subst hu; rfl
      case b1 => unfold maxLen; omega
      case b2 => omega
      case b3 => simp; omega
      intro g cap2 w2 H1 HG HN
      go_wp2
      go_roundw
      case rel =>
        refine ⟨k, rs ++ [d], by omega, rfl, ?_, ?_, ?_⟩
        · show _ = _
          rw [← hrs.out, HD.out]
          simp [dig]
        · have := H1.out
          rw [← bn_snoc] at this
          simpa using this
        · refine (HBL.out.alloc hsz _).grown HG.out (by simp; omega) (fun k hk => ?_)
          exact (HOWN.out.lt k hk).1
      case measure => simp [intOf]

set_option maxRecDepth 100000 in
set_option maxHeartbeats 2000000 in
theorem rones_wany (w : World) (v : Value) (ds : List Bool) (n : Nat) (hbt : BtAt w v ds) (hsm : ds.length ≤ 1000000) (hn : n ≤ 1024) :
    Calls Tryz.prog 69 #[v, .int .i64 n] w fun e w' => ∃ v', e = .returned (.tuple #[v', .bool true]) ∧ w'.ownsRow w.heap.size 5 1 v' (ds ++ (List.replicate n true ++ [false])).length (u8s (bn (ds ++ (List.replicate n true ++ [false])))) ∧ Below w.heap.size w w' := by
  obtain ⟨i0, hi, hz0, hz1, hz2⟩ := info_parts Tryz.info5
  have HBT : Hid (BtAt w v ds) := hbt
  clear hbt
  go_enter Tryz.func69, Tryz.ntmps69
  go_wp2_with (at_builtin; go_must (refine wpList_append_bt _ rfl _ (.tmp 15) 35 rfl i0 Tryz.underlyingBits hi hz0 hz1 hz2 rfl v ds rfl HBT.out (by omega) ?_))
  intro v1 w1 HO1 HB1
  go_wp2
  go_loopw [6, 7] (fun out i wr => ∃ (k : Nat), k ≤ n ∧ i = .int .i64 (k : Int) ∧ Hid (OfAt w wr out (ds ++ List.replicate k true))) (fun _ i _ => n - (intOf i).toNat)
  case atStart => exact ⟨0, Nat.zero_le _, rfl, by simpa using HO1.out, HB1.out⟩
  case round =>
    obtain ⟨k, hk, rfl, hof⟩ := hrel
    obtain ⟨ho, hbl⟩ := hof.out
    obtain ⟨rs, hrs⟩ : ∃ rs, rs = ds ++ List.replicate k true := ⟨_, rfl⟩
    rw [← hrs] at ho
    have HRS : Hid (rs = ds ++ List.replicate k true) := hrs
    have hrl : rs.length ≤ 1001024 := by rw [hrs]; simp; omega
    have HOWN : Hid (wr.ownsRow w.heap.size 5 1 u6 rs.length (u8s (bn rs))) := ho
    have HBL : Hid (Below w.heap.size w wr) := hbl
    have hsz : w.heap.size ≤ wr.heap.size := hbl.size
    clear ho hbl hrs
    by_cases hkn : k < n
    · go_wp2_with (at_builtin; go_must (refine wpList_append_mine _ rfl (.tmp 22) (.tmp 23) 35 rfl w.heap.size 5 i0 (.int .u8 0) 1 1 Tryz.underlyingBits hi hz0 hz1 hz2 rfl (by decide) _ rs.length (u8s (bn rs)) rfl (HOWN.out.alloc _) ⟨wr.heap.size, 0, none⟩ 1 1 [.int .u8 1] rfl rfl ?c1 ?c2 (by decide) ?b1 ?b2 ?b3 ?_))
      case c1 => intro j u hj; match j, hj with | 0, hj => simp at hj; subst hj; simp [Addr.add]
      case c2 => intro u hu; simp at hu; subst hu; rfl
      case b1 => unfold maxLen; omega
      case b2 => omega
      case b3 => simp; omega
      intro g cap2 w2 H1 HG HN
      go_wp2
      go_roundw
      case rel =>
        refine ⟨k + 1, by omega, by go_num, ?_, ?_⟩
        · have h1 := H1.out
          have e : ds ++ List.replicate (k + 1) true = rs ++ [true] := by rw [HRS.out, List.replicate_succ', List.append_assoc]
          rw [e, bn_snoc]
          simpa using h1
        · refine (HBL.out.alloc hsz _).grown HG.out (by simp; omega) (fun k hk => ?_)
          exact (HOWN.out.lt k hk).1
      case measure => simp [intOf]; omega
    · have e : k = n := by omega
      subst e
      go_wp2_with (at_builtin; go_must (refine wpList_append_mine _ rfl (.tmp 25) (.tmp 26) 35 rfl w.heap.size 5 i0 (.int .u8 0) 1 1 Tryz.underlyingBits hi hz0 hz1 hz2 rfl (by decide) _ rs.length (u8s (bn rs)) rfl (HOWN.out.alloc _) ⟨wr.heap.size, 0, none⟩ 1 1 [.int .u8 0] rfl rfl ?c1 ?c2 (by decide) ?b1 ?b2 ?b3 ?_))
      case c1 => intro j u hj; match j, hj with | 0, hj => simp at hj; subst hj; simp [Addr.add]
      case c2 => intro u hu; simp at hu; subst hu; rfl
      case b1 => unfold maxLen; omega
      case b2 => omega
      case b3 => simp; omega
      intro g cap2 w2 H1 HG HN
      go_wp2
      go_ret2
      refine ⟨_, rfl, ?_, ?_⟩
      · have h1 := H1.out
        have e : ds ++ (List.replicate k true ++ [false]) = rs ++ [false] := by rw [HRS.out, List.append_assoc]
        rw [e, bn_snoc]
        simpa using h1
      · refine (HBL.out.alloc hsz _).grown HG.out (by simp; omega) (fun k hk => ?_)
        exact (HOWN.out.lt k hk).1

end Go.Proofs.YtlonnoapbfjomabGreat
