/- The texts Ref6, Ref7, Rice4, Writes, Rice6, Zigs, Frm1, one behind the other. -/
import Derived.Test.YthkfaackkcdcoabGreatPart05
import Derived.Laws.AppendOwnNone
import Derived.Test.YthkfaackkcdcoabGreatPart06
import Derived.Test.YthkfaackkcdcoabGreatPart04
import Derived.Test.YthkfaackkcdcoabGreatPart02
import Derived.Test.YthkfaackkcdcoabGreatPart08

/- The document's own answers: Put, Ones. -/
namespace Go.Proofs.YthkfaackkcdcoabGreat
set_option linter.unusedVariables false
set_option linter.unusedSimpArgs false
open Go.RowKit Dg

/-- 'append(Bits(nil), b...)': digits in new memory. -/
theorem wpList_append_bt {P : Program} (w : World) {ops : Array Oper} {rest : List Oper} {o : Oper} {a : Act} {Q : Exit → Act → World → Prop}
    (hgd : o.guard = none) (s x : Operand) (t : TypeId) (ho : o.op = .call { callee := .builtin .append, args := #[s, x], argTypes := #[t, t] })
    (i : TypeInfo) (ht : P.underlying t = some (.slice 5)) (hi : P.info? 5 = some i) (hz : i.zero = some (.int .u8 0)) (hsize : i.size = 1) (hby : i.bytes = 1)
    (hs : a.eval s = .slice none 0 0) (v : Value) (ds : List Bool) (hx : a.eval x = v) (hbt : BtAt w v ds) (hsm : ds.length ≤ 4398046511104)
    (h : ∀ v' w', Hid (w'.ownsRow w.heap.size 5 1 v' ds.length (u8s (bn ds))) → Hid (Below w.heap.size w w') → wpList P ops Q rest (a.put o.dst v') w') : wpList P ops Q (o :: rest) a w := by
  rcases hbt with ⟨rfl, rfl⟩ | ⟨b, off, cap, rfl, hb, hl, hm, hc⟩
  · exact wpList_append_own_none hgd s x t ho w.heap.size 5 i 1 ht hi (.slice none 0 0) 0 [] hs (World.ownsRow_nil _ _ _ _) hx (h _ w (World.ownsRow_nil _ _ _ _) (Below.refl _ _))
  · refine wpList_append_own w hgd s x t ho w.heap.size 5 i (.int .u8 0) 1 1 ht hi hz hsize hby rfl (by decide) (.slice none 0 0) 0 [] hs (World.ownsRow_nil _ _ _ _) ⟨b, off, none⟩ ds.length cap (u8s (bn ds)) hx (by simp) ?_ ?_ ?_ ?_ (Nat.le_refl _) ?_
    · intro j u hu
      rw [bn_get] at hu
      obtain ⟨d, hd, rfl⟩ := Option.map_eq_some_iff.1 hu
      have hadd : (⟨b, off, none⟩ : Addr).add j = ⟨b, off + j, none⟩ := by simp [Addr.add]
      rw [hadd]
      exact hc j d hd
    · intro u hu; simp [u8s] at hu; obtain ⟨x, _, rfl⟩ := hu; rfl
    · unfold maxLen; omega
    · omega
    · intro v' w' ho' hg' _
      refine h v' w' ?_ ?_
      · show w'.ownsRow _ _ _ _ _ _
        simpa using ho'
      · exact (Below.refl _ _).grown hg' (Nat.le_refl _) (fun k hk => by cases hk)

theorem and_i64 (x : Int) (d : Bool) (hd : d = (x % 2 == 1)) : bits BinOp.and IntKind.i64 x 1 = (d.toNat : Int) := by
  show IntKind.i64.wrap ((BitVec.ofInt 64 x &&& BitVec.ofInt 64 1).toNat : Int) = _
  have e1 : (BitVec.ofInt 64 1).toNat = 1 := by decide
  rw [BitVec.toNat_and, e1, nat_mask1, BitVec.toNat_ofInt]
  have hm : ((x % ((2 ^ 64 : Nat) : Int)).toNat % 2 : Nat) = (x % 2).toNat := by
    have : ((2 ^ 64 : Nat) : Int) = 18446744073709551616 := by decide
    rw [this]; omega
  rw [hm, hd]
  have h2 : x % 2 = 0 ∨ x % 2 = 1 := by omega
  rcases h2 with h | h <;> simp [h, IntKind.wrap, IntKind.bits, IntKind.signed]

set_option maxHeartbeats 1000000 in
theorem rput_bad (w : World) (v : Value) (x n : Int) (hn : n < 0 ∨ 62 < n) :
    Calls Tryz.prog 19 #[v, .int .i64 x, .int .i64 n] w fun e w' => e = .returned (.tuple #[v, .bool false]) ∧ w = w' := by
  rcases hn with h | h
  · go_enter Tryz.func19, Tryz.ntmps19
    go_wp2
    go_ret2
    exact ⟨rfl, rfl⟩
  · have h' : 0 ≤ n := by omega
    go_enter Tryz.func19, Tryz.ntmps19
    go_wp2
    go_ret2
    exact ⟨rfl, rfl⟩

set_option maxHeartbeats 1000000 in
theorem rones_wbad (w : World) (v : Value) (n : Int) (hn : n < 0 ∨ 1024 < n) :
    Calls Tryz.prog 69 #[v, .int .i64 n] w fun e w' => e = .returned (.tuple #[v, .bool false]) ∧ w = w' := by
  rcases hn with h | h
  · go_enter Tryz.func69, Tryz.ntmps69
    go_wp2
    go_ret2
    exact ⟨rfl, rfl⟩
  · have h' : 0 ≤ n := by omega
    go_enter Tryz.func69, Tryz.ntmps69
    go_wp2
    go_ret2
    exact ⟨rfl, rfl⟩

set_option maxRecDepth 100000 in
set_option maxHeartbeats 2000000 in
theorem rput_any (w : World) (v : Value) (ds : List Bool) (x : Int) (n : Nat) (hbt : BtAt w v ds) (hsm : ds.length ≤ 1000000) (hn : n ≤ 62) :
    Calls Tryz.prog 19 #[v, .int .i64 x, .int .i64 n] w fun e w' => ∃ v', e = .returned (.tuple #[v', .bool true]) ∧ w'.ownsRow w.heap.size 5 1 v' (ds ++ dig x n).length (u8s (bn (ds ++ dig x n))) ∧ Below w.heap.size w w' := by
  obtain ⟨i0, hi, hz0, hz1, hz2⟩ := info_parts Tryz.info5
  have HBT : Hid (BtAt w v ds) := hbt
  clear hbt
  go_enter Tryz.func19, Tryz.ntmps19
  go_wp2_with (at_builtin; go_must (refine wpList_append_bt _ rfl _ (.tmp 17) 35 rfl i0 Tryz.underlyingBits hi hz0 hz1 hz2 rfl v ds rfl HBT.out (by omega) ?_))
  intro v1 w1 HO1 HB1
  go_wp2
  go_loopw [8, 9] (fun out i wr => ∃ (k : Nat) (rs : List Bool), k ≤ n ∧ i = .int .i64 ((k : Int) - 1) ∧ Hid (rs ++ dig x k = ds ++ dig x n) ∧ Hid (OfAt w wr out rs)) (fun _ i _ => (intOf i + 1).toNat)
  case atStart => exact ⟨n, ds, Nat.le_refl _, rfl, rfl, HO1.out, HB1.out⟩
  case round =>
    obtain ⟨m, rs, hm, rfl, hrs, hof2⟩ := hrel
    match m, hm, hrs with
    | 0, _, hrs =>
      go_wp2
      go_ret2
      have h0 := hrs.out
      rw [show dig x 0 = [] from rfl, List.append_nil] at h0
      refine ⟨_, rfl, ?_⟩
      rw [← h0]
      exact hof2.out
    | k + 1, hm, hrs =>
      have ek : ((k + 1 : Nat) : Int) - 1 = (k : Int) := by omega
      rw [ek]
      obtain ⟨d, hd⟩ : ∃ d : Bool, d = (x / 2 ^ k % 2 == 1) := ⟨_, rfl⟩
      have hbit := and_i64 (x / 2 ^ k) d hd
      have hd1 : d.toNat ≤ 1 := by cases d <;> decide
      have HD : Hid (d = (x / 2 ^ k % 2 == 1)) := hd
      clear hd ek
      obtain ⟨ho, hbl⟩ := hof2.out
      have HOWN : Hid (wr.ownsRow w.heap.size 5 1 u8 rs.length (u8s (bn rs))) := ho
      have HBL : Hid (Below w.heap.size w wr) := hbl
      have hrl : rs.length ≤ 1000062 := by
        have h1 := congrArg List.length hrs.out
        simp only [List.length_append, length_dig] at h1
        omega
      have hsz : w.heap.size ≤ wr.heap.size := hbl.size
      clear ho hbl
      go_wp2_with (at_builtin; go_must (refine wpList_append_mine _ rfl (.tmp 25) (.tmp 32) 35 rfl w.heap.size 5 i0 (.int .u8 0) 1 1 Tryz.underlyingBits hi hz0 hz1 hz2 rfl (by decide) _ rs.length (u8s (bn rs)) rfl (HOWN.out.alloc _) ⟨wr.heap.size, 0, none⟩ 1 1 [.int .u8 (d.toNat : Int)] rfl rfl ?c1 ?c2 (by decide) ?b1 ?b2 ?b3 ?_))
      case c1 => intro j u hj; match j, hj with | 0, hj => simp at hj; subst hj; simp [Addr.add]
      case c2 => intro u hu; simp at hu; subst hu; rfl
      case b1 => unfold maxLen; omega
      case b2 => omega
      case b3 => simp; omega
      intro g cap2 w2 H1 HG HN
      go_wp2
      go_roundw
      case rel =>
        refine ⟨k, rs ++ [d], by omega, rfl, ?_, ?_, ?_⟩
        · show _ = _
          rw [← hrs.out, HD.out]
          simp [dig]
        · have := H1.out
          rw [← bn_snoc] at this
          simpa using this
        · refine (HBL.out.alloc hsz _).grown HG.out (by simp; omega) (fun k hk => ?_)
          exact (HOWN.out.lt k hk).1
      case measure => simp [intOf]

set_option maxRecDepth 100000 in
set_option maxHeartbeats 2000000 in
theorem rones_wany (w : World) (v : Value) (ds : List Bool) (n : Nat) (hbt : BtAt w v ds) (hsm : ds.length ≤ 1000000) (hn : n ≤ 1024) :
    Calls Tryz.prog 69 #[v, .int .i64 n] w fun e w' => ∃ v', e = .returned (.tuple #[v', .bool true]) ∧ w'.ownsRow w.heap.size 5 1 v' (ds ++ (List.replicate n true ++ [false])).length (u8s (bn (ds ++ (List.replicate n true ++ [false])))) ∧ Below w.heap.size w w' := by
  obtain ⟨i0, hi, hz0, hz1, hz2⟩ := info_parts Tryz.info5
  have HBT : Hid (BtAt w v ds) := hbt
  clear hbt
  go_enter Tryz.func69, Tryz.ntmps69
  go_wp2_with (at_builtin; go_must (refine wpList_append_bt _ rfl _ (.tmp 15) 35 rfl i0 Tryz.underlyingBits hi hz0 hz1 hz2 rfl v ds rfl HBT.out (by omega) ?_))
  intro v1 w1 HO1 HB1
  go_wp2
  go_loopw [6, 7] (fun out i wr => ∃ (k : Nat), k ≤ n ∧ i = .int .i64 (k : Int) ∧ Hid (OfAt w wr out (ds ++ List.replicate k true))) (fun _ i _ => n - (intOf i).toNat)
  case atStart => exact ⟨0, Nat.zero_le _, rfl, by simpa using HO1.out, HB1.out⟩
  case round =>
    obtain ⟨k, hk, rfl, hof⟩ := hrel
    obtain ⟨ho, hbl⟩ := hof.out
    obtain ⟨rs, hrs⟩ : ∃ rs, rs = ds ++ List.replicate k true := ⟨_, rfl⟩
    rw [← hrs] at ho
    have HRS : Hid (rs = ds ++ List.replicate k true) := hrs
    have hrl : rs.length ≤ 1001024 := by rw [hrs]; simp; omega
    have HOWN : Hid (wr.ownsRow w.heap.size 5 1 u6 rs.length (u8s (bn rs))) := ho
    have HBL : Hid (Below w.heap.size w wr) := hbl
    have hsz : w.heap.size ≤ wr.heap.size := hbl.size
    clear ho hbl hrs
    by_cases hkn : k < n
    · go_wp2_with (at_builtin; go_must (refine wpList_append_mine _ rfl (.tmp 22) (.tmp 23) 35 rfl w.heap.size 5 i0 (.int .u8 0) 1 1 Tryz.underlyingBits hi hz0 hz1 hz2 rfl (by decide) _ rs.length (u8s (bn rs)) rfl (HOWN.out.alloc _) ⟨wr.heap.size, 0, none⟩ 1 1 [.int .u8 1] rfl rfl ?c1 ?c2 (by decide) ?b1 ?b2 ?b3 ?_))
      case c1 => intro j u hj; match j, hj with | 0, hj => simp at hj; subst hj; simp [Addr.add]
      case c2 => intro u hu; simp at hu; subst hu; rfl
      case b1 => unfold maxLen; omega
      case b2 => omega
      case b3 => simp; omega
      intro g cap2 w2 H1 HG HN
      go_wp2
      go_roundw
      case rel =>
        refine ⟨k + 1, by omega, by go_num, ?_, ?_⟩
        · have h1 := H1.out
          have e : ds ++ List.replicate (k + 1) true = rs ++ [true] := by rw [HRS.out, List.replicate_succ', List.append_assoc]
          rw [e, bn_snoc]
          simpa using h1
        · refine (HBL.out.alloc hsz _).grown HG.out (by simp; omega) (fun k hk => ?_)
          exact (HOWN.out.lt k hk).1
      case measure => simp [intOf]; omega
    · have e : k = n := by omega
      subst e
      go_wp2_with (at_builtin; go_must (refine wpList_append_mine _ rfl (.tmp 25) (.tmp 26) 35 rfl w.heap.size 5 i0 (.int .u8 0) 1 1 Tryz.underlyingBits hi hz0 hz1 hz2 rfl (by decide) _ rs.length (u8s (bn rs)) rfl (HOWN.out.alloc _) ⟨wr.heap.size, 0, none⟩ 1 1 [.int .u8 0] rfl rfl ?c1 ?c2 (by decide) ?b1 ?b2 ?b3 ?_))
      case c1 => intro j u hj; match j, hj with | 0, hj => simp at hj; subst hj; simp [Addr.add]
      case c2 => intro u hu; simp at hu; subst hu; rfl
      case b1 => unfold maxLen; omega
      case b2 => omega
      case b3 => simp; omega
      intro g cap2 w2 H1 HG HN
      go_wp2
      go_ret2
      refine ⟨_, rfl, ?_, ?_⟩
      · have h1 := H1.out
        have e : ds ++ (List.replicate k true ++ [false]) = rs ++ [false] := by rw [HRS.out, List.append_assoc]
        rw [e, bn_snoc]
        simpa using h1
      · refine (HBL.out.alloc hsz _).grown HG.out (by simp; omega) (fun k hk => ?_)
        exact (HOWN.out.lt k hk).1

end Go.Proofs.YthkfaackkcdcoabGreat

/- The document's own answers: Bytes; and Spoil. -/
namespace Go.Proofs.YthkfaackkcdcoabGreat
set_option linter.unusedVariables false
set_option linter.unusedSimpArgs false
open Go.RowKit Dg

/-- N bytes of digits. -/
def packN (N : Nat) (ds : List Bool) : List Nat := (List.range N).map (byteAt ds)
@[simp] theorem length_packN (N : Nat) (ds : List Bool) : (packN N ds).length = N := by simp [packN]
theorem packN_get (N : Nat) (ds : List Bool) (k : Nat) (h : k < N) : (packN N ds)[k]? = some (byteAt ds k) := by simp [packN, h]
theorem packN_snoc (N : Nat) (ds : List Bool) (d : Bool) (h : ds.length / 8 < N) : packN N (ds ++ [d]) = (packN N ds).set (ds.length / 8) (byteAt (ds ++ [d]) (ds.length / 8)) := by
  apply List.ext_getElem?
  intro k
  by_cases hk : k < N
  · rw [packN_get _ _ _ hk, List.getElem?_set]
    by_cases he : ds.length / 8 = k
    · rw [if_pos he, if_pos (by simp; omega)]; rw [he]
    · rw [if_neg he, packN_get _ _ _ hk, byteAt_snoc_other _ _ _ (by omega)]
  · rw [List.getElem?_eq_none (by simp; omega), List.getElem?_eq_none (by simp; omega)]
theorem byteAt_nil (k : Nat) : byteAt [] k = 0 := by simp [byteAt, dg]
theorem packN_nil (N : Nat) : packN N [] = List.replicate N 0 := by
  apply List.ext_getElem?
  intro k
  by_cases hk : k < N
  · rw [packN_get _ _ _ hk, byteAt_nil, List.getElem?_replicate, if_pos hk]
  · rw [List.getElem?_eq_none (by simp; omega), List.getElem?_eq_none (by simp; omega)]

theorem made_u8 (n : Nat) : (madeCells (Value.int .u8 0).cells (n * 1)).toList = u8s (List.replicate n 0) := by
  apply List.ext_getElem?
  intro k
  by_cases hk : k < n
  · simp [madeCells, u8s, hk, Value.cells, Nat.mod_one]
  · rw [List.getElem?_eq_none (by simp [madeCells]; omega), List.getElem?_eq_none (by simp; omega)]

set_option maxHeartbeats 2000000 in
theorem rbytes_raw (w : World) (v : Value) (ds : List Bool) (hbt : BtAt w v ds) (hsm : ds.length ≤ 1000000) (N : Nat) (hN : N = (ds.length + 7) / 8) :
    Calls Tryz.prog 12 #[v] w fun e w' => e = .returned (.slice (some ⟨w.heap.size, 0, none⟩) N N) ∧ w'.ownsRow w.heap.size 5 1 (.slice (some ⟨w.heap.size, 0, none⟩) N N) N (u8s (packN N ds)) ∧ Below w.heap.size w w' := by
  obtain ⟨i0, hi, hz0, hz1, hz2⟩ := info_parts Tryz.info5
  obtain ⟨a0, c0, rfl⟩ := hbt.form
  have HBT : Hid (BtAt w (.slice a0 ds.length c0) ds) := hbt
  have HN : Hid (N = (ds.length + 7) / 8) := hN
  have hNi : ((ds.length : Int) + 7) / 8 = (N : Int) := by omega
  clear hbt hN
  obtain ⟨g, hg⟩ : ∃ g, g = w.heap.size := ⟨_, rfl⟩
  have HG : Hid (g = w.heap.size) := hg
  go_enter Tryz.func12, Tryz.ntmps12
  go_wp2_with (at_make; go_must (refine wpList_make_full _ rfl _ _ 25 rfl w.heap.size 5 i0 (.int .u8 0) 1 Tryz.underlying25 hi hz0 hz1 _ _ _ _ N rfl rfl ?e1 ?e2 ?b1 ?b2 ?b3 ?_))
  case e1 => exact hNi
  case e2 => exact hNi
  case b1 => rw [hz2]; have := HN.out; omega
  case b2 => unfold maxLen; have := HN.out; omega
  case b3 => exact Nat.le_refl _
  intro w1 hown hgr
  have HO1 : Hid (w1.ownsRow w.heap.size 5 1 (.slice (some ⟨g, 0, none⟩) N N) N (u8s (packN N []))) := by
    rw [packN_nil, ← made_u8, hg, Nat.mul_one]; exact hown
  have HB1 : Hid (Below w.heap.size w w1) := (Below.refl _ _).grown hgr (Nat.le_refl _) (fun k hk => by cases hk)
  rw [← hg]
  clear hown hgr hg
  go_wp2
  go_loopw [12] (fun i wr => ∃ j : Nat, j ≤ ds.length ∧ i = .int .i64 j ∧ Hid (wr.ownsRow w.heap.size 5 1 (.slice (some ⟨g, 0, none⟩) N N) N (u8s (packN N (ds.take j)))) ∧ Hid (Below w.heap.size w wr)) (fun i _ => ds.length - (intOf i).toNat)
  case atStart => exact ⟨0, Nat.zero_le _, rfl, HO1.out, HB1.out⟩
  case round =>
    obtain ⟨j, hj, rfl, ho, hbl⟩ := hrel
    by_cases hjl : j < ds.length
    · obtain ⟨d, hd⟩ : ∃ d, ds[j]? = some d := ⟨ds[j], by simp [hjl]⟩
      have hcb : ∃ b off, a0 = some ⟨b, off, none⟩ ∧ wr.cell? ⟨b, off + j, none⟩ = some (.int .u8 (d.toNat : Int)) := by
        rcases HBT.out with ⟨_, h0⟩ | ⟨b, off, cap, he, hb, hl, hm, hc⟩
        · rw [h0] at hjl; simp at hjl
        · cases he
          exact ⟨b, off, rfl, by rw [hbl.out.cell (p := ⟨b, off + j, none⟩) hb]; exact hc j d hd⟩
      obtain ⟨b, off, rfl, hcell⟩ := hcb
      have hj8 : j / 8 < N := by have := HN.out; omega
      obtain ⟨y, hy⟩ : ∃ y, y = byteAt (ds.take j) (j / 8) := ⟨_, rfl⟩
      have hrow : wr.cell? ⟨g, j / 8, none⟩ = some (.int .u8 (y : Int)) ∧ wr.frozen? ⟨g, j / 8, none⟩ = false := by
        rcases ho.out.2 with ⟨e1, _⟩ | ⟨g', cap', cur, hv, hgb, hh, hncap, _, hcs, htake⟩
        · cases e1
        · cases hv
          refine ⟨?_, by simp [World.frozen?, hh]⟩
          have e : (u8s (packN N (ds.take j)))[j / 8]? = some (.int .u8 (y : Int)) := by rw [u8s_get, packN_get _ _ _ hj8, hy]; rfl
          rw [← htake, List.getElem?_take, if_pos (by omega)] at e
          simp only [World.cell?, hh]
          simpa using e
      obtain ⟨hrc, hrf⟩ := hrow
      have HOR : Hid (bits BinOp.or IntKind.u8 (y : Int) ((d.toNat : Int) * 2 ^ (7 - j % 8) % 256) = (byteAt (ds.take j ++ [d]) (j / 8) : Nat)) := by
        have h1 := byteAt_or (ds.take j) d
        have h2 : (ds.take j).length = j := by simp; omega
        rw [h2, ← hy] at h1
        exact h1
      have HT : Hid (ds.take (j + 1) = ds.take j ++ [d]) := by show _ = _; rw [List.take_add_one, hd]; rfl
      clear hd hy
      go_wp2
      go_region
      all_goals go_wp2
      all_goals go_roundw
      case rel =>
        refine ⟨j + 1, by omega, by go_num, ?_, ?_⟩
        · rw [HT.out, HOR.out, packN_snoc N (ds.take j) d (by simp; omega), ← u8s_set]
          have h2 : (ds.take j).length = j := by simp; omega
          rw [h2]
          exact ownsRow_set ho.out (j / 8) hj8 _
        · exact (hbl.out.setCell (by show _ ≤ g; have := HG.out; omega) _).drew
      case measure => simp [intOf]; omega
    · have e : j = ds.length := by omega
      go_wp2
      go_ret
      have h1 := ho.out
      rw [e, List.take_length] at h1
      refine ⟨by rw [← HG.out]; rfl, by rw [← HG.out] at h1 ⊢; exact h1, hbl.out⟩

theorem rbytes_any (w : World) (v : Value) (ds : List Bool) (l : List Nat) (hl : l = pack ds) (hbt : BtAt w v ds) (hsm : ds.length ≤ 1000000) :
    Calls Tryz.prog 12 #[v] w fun e w' => e = .returned (.slice (some ⟨w.heap.size, 0, none⟩) l.length l.length) ∧ NewBytes w w' l := by
  have e : l = packN ((ds.length + 7) / 8) ds := hl
  have hll : l.length = (ds.length + 7) / 8 := by rw [e]; simp
  refine (rbytes_raw w v ds hbt hsm _ rfl).mono ?_
  rintro e' w' ⟨rfl, h1, h2⟩
  rw [← hll] at h1 ⊢
  refine ⟨rfl, ?_, h2⟩
  rw [e]
  rw [hll] at h1
  simpa using h1

end Go.Proofs.YthkfaackkcdcoabGreat

/- The document's own answers: may, Size, Best; Cut of numbers. -/
namespace Go.Proofs.YthkfaackkcdcoabGreat
set_option linter.unusedVariables false
set_option linter.unusedSimpArgs false
open Go.RowKit Dg

set_option maxHeartbeats 1000000 in
theorem may_any (z k : Int) (w : World) (m : Bool) (hm : m = (isNum z && isPar k)) :
    Calls Tryz.prog 67 #[.int .i64 z, .int .i64 k] w fun e w' => e = .returned (.bool m) ∧ w = w' := by
  have hc : (z < 0 ∧ m = false) ∨ (0 ≤ z ∧ 4294967296 ≤ z ∧ m = false) ∨ (0 ≤ z ∧ z < 4294967296 ∧ k < 0 ∧ m = false) ∨ (0 ≤ z ∧ z < 4294967296 ∧ 0 ≤ k ∧ 24 < k ∧ m = false) ∨ (0 ≤ z ∧ z < 4294967296 ∧ 0 ≤ k ∧ k ≤ 24 ∧ m = true) := by
    cases hz : isNum z with
    | true =>
      obtain ⟨h1, h2⟩ := isNum_true hz
      cases hk : isPar k with
      | true =>
        obtain ⟨h3, h4⟩ := isPar_true hk
        simp [hz, hk] at hm
        exact .inr (.inr (.inr (.inr ⟨h1, h2, h3, h4, hm⟩)))
      | false =>
        simp [hz, hk] at hm
        rcases isPar_false hk with h | h
        · exact .inr (.inr (.inl ⟨h1, h2, h, hm⟩))
        · exact .inr (.inr (.inr (.inl ⟨h1, h2, by omega, h, hm⟩)))
    | false =>
      simp [hz] at hm
      rcases isNum_false hz with h | h
      · exact .inl ⟨h, hm⟩
      · exact .inr (.inl ⟨by omega, h, hm⟩)
  clear hm
  rcases hc with ⟨h1, rfl⟩ | ⟨h1, h2, rfl⟩ | ⟨h1, h2, h3, rfl⟩ | ⟨h1, h2, h3, h4, rfl⟩ | ⟨h1, h2, h3, h4, rfl⟩
  · go_enter Tryz.func67, Tryz.ntmps67
    go_wp2
    go_ret
    exact ⟨rfl, rfl⟩
  · have hb : decide (z < 4294967296) = false := by simp; omega
    go_enter Tryz.func67, Tryz.ntmps67
    go_wp2
    go_ret
    exact ⟨rfl, rfl⟩
  · have hb : decide (0 ≤ k) = false := by simp; omega
    go_enter Tryz.func67, Tryz.ntmps67
    go_wp2
    go_ret
    exact ⟨rfl, rfl⟩
  · have hb : decide (k ≤ 24) = false := by simp; omega
    go_enter Tryz.func67, Tryz.ntmps67
    go_wp2
    go_ret
    exact ⟨rfl, rfl⟩
  · go_enter Tryz.func67, Tryz.ntmps67
    go_wp2
    go_ret
    exact ⟨rfl, rfl⟩

set_option maxHeartbeats 1000000 in
theorem rsize_in (z : Int) (k : Nat) (w : World) (hz : isNum z = true) (hk : k ≤ 24) :
    Calls Tryz.prog 68 #[.int .i64 z, .int .i64 k] w fun e w' => e = .returned (.int .i64 (sizeIn z k)) ∧ w = w' := by
  have hp : isPar (k : Int) = true := by simp [isPar]; omega
  obtain ⟨h1, h2⟩ := isNum_true hz
  obtain ⟨h3, h4⟩ := quot_le z k h1
  have HM : Hid (true = (isNum z && isPar (k : Int))) := by show _ = _; rw [hz, hp]; rfl
  clear hz hp
  by_cases hr : 24 ≤ z / 2 ^ k
  · have e : sizeIn z k = 56 := by simp [sizeIn, hr]
    rw [e]
    clear e
    go_enter Tryz.func68, Tryz.ntmps68
    go_wp2_with (go_at_call 67; refine (may_any z k w true HM.out).mono ?_; rintro e w2 ⟨rfl, rfl⟩)
    go_ret
    exact ⟨rfl, rfl⟩
  · have e : sizeIn z k = z / 2 ^ k + 1 + k := by simp [sizeIn, hr]
    rw [e]
    clear e
    go_enter Tryz.func68, Tryz.ntmps68
    go_wp2_with (go_at_call 67; refine (may_any z k w true HM.out).mono ?_; rintro e w2 ⟨rfl, rfl⟩)
    go_ret
    exact ⟨rfl, rfl⟩

set_option maxHeartbeats 1000000 in
theorem rsize_any (z k : Int) (w : World) :
    Calls Tryz.prog 68 #[.int .i64 z, .int .i64 k] w fun e w' => e = .returned (.int .i64 (sizeOf1 z k)) ∧ w = w' := by
  by_cases h : isNum z = true ∧ isPar k = true
  · obtain ⟨hz, hk⟩ := h
    have e : sizeOf1 z k = sizeIn z k.toNat := by simp [sizeOf1, hz, hk]
    obtain ⟨h1, h2⟩ := isPar_true hk
    have ek : k = (k.toNat : Int) := by omega
    rw [e]
    have := rsize_in z k.toNat w hz (by omega)
    rw [← ek] at this
    exact this
  · have e : sizeOf1 z k = 0 := by simp only [sizeOf1]; rw [if_neg h]
    rw [e]
    clear e
    have HM : Hid (false = (isNum z && isPar k)) := by
      show _ = _
      cases hz : isNum z <;> cases hk : isPar k <;> simp_all
    clear h
    go_enter Tryz.func68, Tryz.ntmps68
    go_wp2_with (go_at_call 67; refine (may_any z k w false HM.out).mono ?_; rintro e w2 ⟨rfl, rfl⟩)
    go_ret
    exact ⟨rfl, rfl⟩

theorem isPar_zero : isPar 0 = true := by decide

set_option maxHeartbeats 1000000 in
theorem rbest_bad (w : World) (a : Option Addr) (cap : Nat) (l : List Int) (h : IntsAt w a l) (hl : l.length ≤ 4096) (hbad : ∃ x ∈ l, isNum x = false) :
    Calls Tryz.prog 42 #[.slice a l.length cap] w fun e w' => e = .returned (.tuple #[.int .i64 0, .int .i64 0]) ∧ w = w' := by
  have HI : Hid (IntsAt w a l) := h
  have HB : Hid (∃ x ∈ l, isNum x = false) := hbad
  clear h hbad
  go_enter Tryz.func42, Tryz.ntmps42
  go_wp2
  go_loopw [12] (fun i wr => ∃ (j : Nat), i = .int .i64 (j : Int) ∧ j ≤ l.length ∧ Hid (∀ x ∈ l.take j, isNum x = true) ∧ w = wr) (fun i _ => l.length - (intOf i).toNat)
  case atStart => exact ⟨0, rfl, Nat.zero_le _, by intro x hx; simp at hx, rfl⟩
  case round =>
    obtain ⟨j, rfl, hj, ht, rfl⟩ := hrel
    by_cases hjn : j < l.length
    · obtain ⟨x, hx⟩ : ∃ x, l[j]? = some x := ⟨l[j], by simp [hjn]⟩
      obtain ⟨b, off, rfl, hc⟩ := HI.out j x hx
      have HX : Hid (l[j]? = some x) := hx
      clear hx HI
      by_cases hn : isNum x = true
      · have HN : Hid (isNum x = true) := hn
        have HM : Hid (true = (isNum x && isPar 0)) := by show _ = _; rw [hn]; rfl
        clear hn
        go_wp2_with (go_at_call 67; refine (may_any x 0 _ true HM.out).mono ?_; rintro e w2 ⟨rfl, rfl⟩)
        go_roundw
        case rel =>
          refine ⟨j + 1, by go_num, by omega, ?_, by trivial⟩
          intro y hy
          rw [List.take_add_one, HX.out] at hy
          rcases List.mem_append.1 hy with h1 | h1
          · exact ht.out y h1
          · simp at h1; subst h1; exact HN.out
        case measure => simp [intOf]; omega
      · have HM : Hid (false = (isNum x && isPar 0)) := by show _ = _; simp at hn; rw [hn]; rfl
        clear hn
        go_wp2_with (go_at_call 67; refine (may_any x 0 _ false HM.out).mono ?_; rintro e w2 ⟨rfl, rfl⟩)
        go_ret2
        exact ⟨rfl, rfl⟩
    · exfalso
      obtain ⟨x, hx, hf⟩ := HB.out
      have := ht.out x (by rw [List.take_of_length_le (by omega)]; exact hx)
      rw [this] at hf
      cases hf

set_option maxRecDepth 100000 in
set_option maxHeartbeats 4000000 in
theorem rbest_all (w : World) (a : Option Addr) (cap : Nat) (l : List Int) (h : IntsAt w a l) (hl : l.length ≤ 4096) (hall : ∀ x ∈ l, isNum x = true) (bk : Nat) (bs : Int) (HR : Hid (bestTo l 24 = (bk, bs))) :
    Calls Tryz.prog 42 #[.slice a l.length cap] w fun e w' => e = .returned (.tuple #[.int .i64 bk, .int .i64 bs]) ∧ w = w' := by
  have HI : Hid (IntsAt w a l) := h
  have HB : Hid (∀ x ∈ l, isNum x = true) := hall
  clear h hall
  go_enter Tryz.func42, Tryz.ntmps42
  go_wp2
  go_loopw [12] (fun i wr => ∃ (j : Nat), i = .int .i64 (j : Int) ∧ j ≤ l.length ∧ w = wr) (fun i _ => l.length - (intOf i).toNat)
  case atStart => exact ⟨0, rfl, Nat.zero_le _, rfl⟩
  case round =>
    obtain ⟨j, rfl, hj, rfl⟩ := hrel
    by_cases hjn : j < l.length
    · obtain ⟨x, hx⟩ : ∃ x, l[j]? = some x := ⟨l[j], by simp [hjn]⟩
      obtain ⟨b, off, rfl, hc⟩ := HI.out j x hx
      have HM : Hid (true = (isNum x && isPar 0)) := by show _ = _; rw [HB.out x (List.mem_of_getElem? hx)]; rfl
      clear hx HI HB
      go_wp2_with (go_at_call 67; refine (may_any x 0 _ true HM.out).mono ?_; rintro e w2 ⟨rfl, rfl⟩)
      go_roundw
      case rel => exact ⟨j + 1, by go_num, by omega, by trivial⟩
      case measure => simp [intOf]; omega
    · go_wp2
      go_loopw [5, 6, 7] (fun bk s i wr => ∃ (j p : Nat) (t : Int), i = .int .i64 (j : Int) ∧ bk = .int .i64 (p : Int) ∧ s = .int .i64 t ∧ j ≤ 25 ∧ Hid (j = 0 ∨ ∃ m, j = m + 1 ∧ bestTo l m = (p, t)) ∧ w = wr) (fun bk s i _ => 25 - (intOf i).toNat)
      case atStart => exact ⟨0, 0, 0, rfl, rfl, rfl, by decide, .inl rfl, rfl⟩
      case round =>
        obtain ⟨p, bp, bt, rfl, rfl, rfl, hp, hbest, rfl⟩ := hrel
        by_cases hp24 : p ≤ 24
        · have hpb : decide ((p : Int) ≤ 24) = true := by simp; omega
          go_wp2
          go_loopw [8, 28] (fun s i ws => ∃ (j : Nat) (t : Int), i = .int .i64 (j : Int) ∧ s = .int .i64 t ∧ j ≤ l.length ∧ Hid (t = sumSize (l.take j) p) ∧ 0 ≤ t ∧ t ≤ 56 * j ∧ w = ws) (fun s i _ => l.length - (intOf i).toNat)
          case atStart => exact ⟨0, 0, rfl, rfl, Nat.zero_le _, rfl, by decide, by decide, rfl⟩
          case round =>
            obtain ⟨j, t, rfl, rfl, hj, ht, ht0, ht1, rfl⟩ := hrel
            by_cases hjn : j < l.length
            · obtain ⟨x, hx⟩ : ∃ x, l[j]? = some x := ⟨l[j], by simp [hjn]⟩
              obtain ⟨b, off, rfl, hcell⟩ := HI.out j x hx
              obtain ⟨sz, hsz⟩ : ∃ sz, sz = sizeOf1 x p := ⟨_, rfl⟩
              have hbd := sizeOf1_bounds x p
              rw [← hsz] at hbd
              obtain ⟨hb1, hb2⟩ := hbd
              have HSZ : Hid (sz = sizeOf1 x p) := hsz
              have HX : Hid (l[j]? = some x) := hx
              clear hx hsz
              go_wp2_with (go_at_call 68; refine (rsize_any x p _).mono ?_; rw [← HSZ.out]; rintro e w2 ⟨rfl, rfl⟩)
              go_roundw
              case rel =>
                have HT : Hid (t + sz = sumSize (l.take (j + 1)) p) := by show _ = _; rw [sumSize_take l p j x HX.out, ← ht.out, ← HSZ.out]
                have hg1 : 0 ≤ t + sz := by omega
                have hg2 : t + sz ≤ 56 * ((j + 1 : Nat) : Int) := by omega
                first
                  | exact ⟨j + 1, t + sz, by go_num, rfl, by omega, HT, hg1, hg2, by trivial⟩
                  | ((repeat apply Exists.intro); refine ⟨?_, rfl⟩; exact ⟨j + 1, t + sz, by go_num, rfl, by omega, HT, hg1, hg2, by trivial⟩)
              case measure => simp [intOf]; omega
            · have e : j = l.length := by omega
              subst e
              have e2 := ht.out
              rw [List.take_length] at e2
              have HT : Hid (t = sumSize l p) := e2
              clear e2 ht
              have cs : (((p : Int) == 0) = true ∧ Hid (bestTo l p = (p, t))) ∨ (((p : Int) == 0) = false ∧ t < bt ∧ Hid (bestTo l p = (p, t))) ∨ (((p : Int) == 0) = false ∧ bt ≤ t ∧ Hid (bestTo l p = (bp, bt))) := by
                rcases hbest.out with h | ⟨m, rfl, hm⟩
                · subst h
                  refine .inl ⟨rfl, ?_⟩
                  show _ = _
                  rw [HT.out]; rfl
                · have hne : (((m + 1 : Nat) : Int) == 0) = false := by simp; omega
                  by_cases hlt : t < bt
                  · refine .inr (.inl ⟨hne, hlt, ?_⟩)
                    show _ = _
                    rw [bestTo, ← HT.out, hm, if_pos hlt]
                  · refine .inr (.inr ⟨hne, by omega, ?_⟩)
                    show _ = _
                    rw [bestTo, ← HT.out, hm, if_neg hlt]
              clear hbest
              rcases cs with ⟨c1, c2⟩ | ⟨c1, c2, c3⟩ | ⟨c1, c2, c3⟩
              · go_wp2
                go_roundw
                case rel =>
                  have HM : Hid (p + 1 = 0 ∨ ∃ m, p + 1 = m + 1 ∧ bestTo l m = (p, t)) := .inr ⟨p, rfl, c2.out⟩
                  first
                    | exact ⟨p + 1, p, t, by go_num, rfl, rfl, by omega, HM, by trivial⟩
                    | ((repeat apply Exists.intro); refine ⟨?_, rfl⟩; exact ⟨p + 1, p, t, by go_num, rfl, rfl, by omega, HM, by trivial⟩)
                case measure => simp [intOf]; omega
              · go_wp2
                go_roundw
                case rel =>
                  have HM : Hid (p + 1 = 0 ∨ ∃ m, p + 1 = m + 1 ∧ bestTo l m = (p, t)) := .inr ⟨p, rfl, c3.out⟩
                  first
                    | exact ⟨p + 1, p, t, by go_num, rfl, rfl, by omega, HM, by trivial⟩
                    | ((repeat apply Exists.intro); refine ⟨?_, rfl⟩; exact ⟨p + 1, p, t, by go_num, rfl, rfl, by omega, HM, by trivial⟩)
                case measure => simp [intOf]; omega
              · go_wp2
                go_roundw
                case rel =>
                  have HM : Hid (p + 1 = 0 ∨ ∃ m, p + 1 = m + 1 ∧ bestTo l m = (bp, bt)) := .inr ⟨p, rfl, c3.out⟩
                  first
                    | exact ⟨p + 1, bp, bt, by go_num, rfl, rfl, by omega, HM, by trivial⟩
                    | ((repeat apply Exists.intro); refine ⟨?_, rfl⟩; exact ⟨p + 1, bp, bt, by go_num, rfl, rfl, by omega, HM, by trivial⟩)
                case measure => simp [intOf]; omega
        · have e3 : (bp, bt) = (bk, bs) := by
            rcases hbest.out with h | ⟨m, h, hm⟩
            · omega
            · have : m = 24 := by omega
              subst this
              rw [← hm, ← HR.out]
          cases e3
          go_wp2
          go_ret2
          exact ⟨rfl, rfl⟩

end Go.Proofs.YthkfaackkcdcoabGreat

/- BitsWrites: the walk of the law. -/
namespace Go.Proofs.YthkfaackkcdcoabGreat
set_option linter.unusedVariables false
set_option linter.unusedSimpArgs false
open Go.RowKit Dg

/-- What the loop keeps: a writer and the document's digits, the same ones. -/
structure WroteAt (w wr : World) (b : Nat) (rv v : Value) (ds : List Bool) : Prop where
  wt : WrAt wr b rv ds
  bt : BtAt wr v ds
  ap : ∀ i, v.ownBlock = some i → ¬ Wf b rv i
  bel : Below w.heap.size w wr

theorem WroteAt.below {w W0 W1 : World} {b : Nat} {rv v : Value} {ds : List Bool} (h : WroteAt w W0 b rv v ds) (hb : Below W0.heap.size W0 W1) (hs : w.heap.size ≤ W0.heap.size) : WroteAt w W1 b rv v ds :=
  ⟨h.wt.below hb, h.bt.below hb, h.ap, h.bel.trans (hb.mono hs)⟩

/-- Some digits more, on both sides. -/
theorem WroteAt.next {w W0 w2 w3 : World} {b : Nat} {rv v v' : Value} {ds ds' : List Bool} (h : WroteAt w W0 b rv v ds) (hown : w2.ownsRow W0.heap.size 5 1 v' ds'.length (u8s (bn ds'))) (hb2 : Below W0.heap.size W0 w2)
    (hwr : Wrote w2 w3 b rv ds') (hbw : w.heap.size ≤ b) : ∃ rv', WroteAt w w3 b rv' v' ds' ∧ b < w3.heap.size := by
  obtain ⟨rv3, hw3, hk3, hn3⟩ := hwr
  have hfoot := h.wt.foot
  have hblk := hown.lt
  refine ⟨rv3, ⟨hw3, (BtAt.of_owns hown).kept hk3 (fun k hk hf => ?_), fun i hi hf => ?_, hk3.below_of (h.bel.trans (hb2.mono ?_)) (fun k hk => ?_) ?_⟩, hw3.lt⟩
  · have := (hblk k hk).1; have := (hfoot k hf).2; omega
  · have h1 := hblk i hi
    rcases hf with rfl | hf
    · have := h.wt.lt; omega
    · rcases hn3 i hf with h2 | h2
      · have := (hfoot i (Or.inr h2)).2; omega
      · omega
  · have := h.wt.lt; omega
  · have := (hfoot k hk).1; omega
  · have := h.wt.lt; have := hb2.size; omega

end Go.Proofs.YthkfaackkcdcoabGreat

/- The document's own digits of a number: Rice. -/
namespace Go.Proofs.YthkfaackkcdcoabGreat
set_option linter.unusedVariables false
set_option linter.unusedSimpArgs false
open Go.RowKit Dg

theorem dig_ones' : dig 16777215 24 = List.replicate 24 true := by decide

theorem rones_wat (w : World) (v : Value) (ds : List Bool) (n : Nat) (hbt : BtAt w v ds) (hsm : ds.length ≤ 1000000) (hn : n ≤ 1024) (I : Int) (hI : I = (n : Int)) :
    Calls Tryz.prog 69 #[v, .int .i64 I] w fun e w' => ∃ v', e = .returned (.tuple #[v', .bool true]) ∧ w'.ownsRow w.heap.size 5 1 v' (ds ++ (List.replicate n true ++ [false])).length (u8s (bn (ds ++ (List.replicate n true ++ [false])))) ∧ Below w.heap.size w w' := by
  subst hI
  exact rones_wany w v ds n hbt hsm hn

set_option maxHeartbeats 1000000 in
theorem rrice_bad (w : World) (v : Value) (z k : Int) (h : (isNum z && isPar k) = false) :
    Calls Tryz.prog 43 #[v, .int .i64 z, .int .i64 k] w fun e w' => e = .returned (.tuple #[v, .bool false]) ∧ w = w' := by
  have HM : Hid (false = (isNum z && isPar k)) := h.symm
  clear h
  go_enter Tryz.func43, Tryz.ntmps43
  go_wp2_with (go_at_call 67; refine (may_any z k w false HM.out).mono ?_; rintro e w2 ⟨rfl, rfl⟩)
  go_ret2
  exact ⟨rfl, rfl⟩

set_option maxHeartbeats 2000000 in
theorem rrice_any (w : World) (v : Value) (ds : List Bool) (z : Int) (k : Nat) (h : BtAt w v ds) (hlt : ds.length ≤ 900000) (hz : isNum z = true) (hk : k ≤ 24) :
    Calls Tryz.prog 43 #[v, .int .i64 z, .int .i64 k] w fun e w' => ∃ v', e = .returned (.tuple #[v', .bool true]) ∧ w'.ownsRow w.heap.size 5 1 v' (ds ++ riceDig z k).length (u8s (bn (ds ++ riceDig z k))) ∧ Below w.heap.size w w' := by
  have hp : isPar (k : Int) = true := by simp [isPar]; omega
  obtain ⟨h1, h2⟩ := isNum_true hz
  obtain ⟨h3, h4⟩ := quot_le z k h1
  have HM : Hid (true = (isNum z && isPar (k : Int))) := by show _ = _; rw [hz, hp]; rfl
  have HW : Hid (BtAt w v ds) := h
  clear hz hp h
  by_cases hr : 24 ≤ z / 2 ^ k
  · have HD : Hid (riceDig z k = List.replicate 24 true ++ dig z 32) := by show _ = _; simp only [riceDig]; rw [if_pos hr]
    obtain ⟨d1, hd1⟩ : ∃ d1, d1 = ds ++ dig 16777215 24 := ⟨_, rfl⟩
    have HD1 : Hid (d1 = ds ++ dig 16777215 24) := hd1
    have hl1 : d1.length ≤ 1000000 := by rw [hd1]; simp; omega
    clear hd1
    go_enter Tryz.func43, Tryz.ntmps43
    go_wp2_with first
      | (go_at_call 67; refine (may_any z k w true HM.out).mono ?_; rintro e w2 ⟨rfl, rfl⟩)
      | fail
    refine (rput_any w v ds 16777215 24 HW.out (by omega) (by decide)).mono ?_
    rw [← HD1.out]
    rintro e w1 ⟨v1, rfl, ho1, hb1⟩
    have HO1 : Hid (BtAt w1 v1 d1) := BtAt.of_owns ho1
    have HB1 : Hid (Below w.heap.size w w1) := hb1
    clear ho1 hb1
    go_wp2_with fail
    refine (rput_any w1 v1 d1 z 32 HO1.out hl1 (by decide)).mono ?_
    rintro e w2 ⟨v2, rfl, ho2, hb2⟩
    have HO2 : Hid (w2.ownsRow w1.heap.size 5 1 v2 (d1 ++ dig z 32).length (u8s (bn (d1 ++ dig z 32)))) := ho2
    have HB2 : Hid (Below w1.heap.size w1 w2) := hb2
    clear ho2 hb2
    go_wp2
    go_ret2
    have e : d1 ++ dig z 32 = ds ++ riceDig z k := by rw [HD1.out, dig_ones', List.append_assoc, ← HD.out]
    have hs := HB1.out.size
    have := HO2.out
    rw [e] at this
    exact ⟨_, rfl, ownsRow_base this hs, HB1.out.trans (HB2.out.mono hs)⟩
  · obtain ⟨q, hq⟩ : ∃ q : Nat, q = (z / 2 ^ k).toNat := ⟨_, rfl⟩
    have HD : Hid (riceDig z k = (List.replicate q true ++ [false]) ++ dig z k) := by show _ = _; simp only [riceDig]; rw [if_neg hr, hq]
    have hqz : z / 2 ^ k = (q : Int) := by omega
    have HQ : Hid (z / 2 ^ k = (q : Int)) := hqz
    have hq24 : q < 24 := by omega
    clear hq hqz
    obtain ⟨d1, hd1⟩ : ∃ d1, d1 = ds ++ (List.replicate q true ++ [false]) := ⟨_, rfl⟩
    have HD1 : Hid (d1 = ds ++ (List.replicate q true ++ [false])) := hd1
    have hl1 : d1.length ≤ 1000000 := by rw [hd1]; simp; omega
    clear hd1
    go_enter Tryz.func43, Tryz.ntmps43
    go_wp2_with first
      | (go_at_call 67; refine (may_any z k w true HM.out).mono ?_; rintro e w2 ⟨rfl, rfl⟩)
      | fail
    refine (rones_wat w v ds q HW.out (by omega) (by omega) _ HQ.out).mono ?_
    rw [← HD1.out]
    rintro e w1 ⟨v1, rfl, ho1, hb1⟩
    have HO1 : Hid (BtAt w1 v1 d1) := BtAt.of_owns ho1
    have HB1 : Hid (Below w.heap.size w w1) := hb1
    clear ho1 hb1
    go_wp2_with fail
    refine (rput_any w1 v1 d1 z k HO1.out hl1 (by omega)).mono ?_
    rintro e w2 ⟨v2, rfl, ho2, hb2⟩
    have HO2 : Hid (w2.ownsRow w1.heap.size 5 1 v2 (d1 ++ dig z k).length (u8s (bn (d1 ++ dig z k)))) := ho2
    have HB2 : Hid (Below w1.heap.size w1 w2) := hb2
    clear ho2 hb2
    go_wp2
    go_ret2
    have e : d1 ++ dig z k = ds ++ riceDig z k := by rw [HD1.out, List.append_assoc, ← HD.out]
    have hs := HB1.out.size
    have := HO2.out
    rw [e] at this
    exact ⟨_, rfl, ownsRow_base this hs, HB1.out.trans (HB2.out.mono hs)⟩

end Go.Proofs.YthkfaackkcdcoabGreat

/- RiceZigs: the walk. -/
namespace Go.Proofs.YthkfaackkcdcoabGreat
set_option linter.unusedVariables false
set_option linter.unusedSimpArgs false
open Go.RowKit Dg

set_option maxHeartbeats 1000000 in
theorem rzig_any (n : Int) (w : World) :
    Calls Tryz.prog 41 #[.int .i64 n] w fun e w' => e = .returned (.int .i64 (zigOf n)) ∧ w = w' := by
  by_cases h1 : n < -1099511627776
  · have e : zigOf n = 0 := by simp [zigOf, h1]
    rw [e]
    go_enter Tryz.func41, Tryz.ntmps41
    go_wp2
    go_ret
    exact ⟨rfl, rfl⟩
  · by_cases h2 : 1099511627776 ≤ n
    · have e : zigOf n = 0 := by simp [zigOf, h2]
      rw [e]
      go_enter Tryz.func41, Tryz.ntmps41
      go_wp2
      go_ret
      exact ⟨rfl, rfl⟩
    · by_cases h3 : n < 0
      · have e : zigOf n = -2 * n - 1 := by simp only [zigOf]; rw [if_neg (by omega), if_pos h3]
        rw [e]
        clear e
        go_enter Tryz.func41, Tryz.ntmps41
        go_wp2
        go_ret
        exact ⟨rfl, rfl⟩
      · have e : zigOf n = 2 * n := by simp only [zigOf]; rw [if_neg (by omega), if_neg h3]
        rw [e]
        clear e
        go_enter Tryz.func41, Tryz.ntmps41
        go_wp2
        go_ret
        exact ⟨rfl, rfl⟩

set_option maxHeartbeats 1000000 in
theorem rzag_any (n : Int) (w : World) :
    Calls Tryz.prog 65 #[.int .i64 n] w fun e w' => e = .returned (.int .i64 (zagOf n)) ∧ w = w' := by
  by_cases h1 : n < 0
  · have e : zagOf n = 0 := by simp [zagOf, h1]
    rw [e]
    go_enter Tryz.func65, Tryz.ntmps65
    go_wp2
    go_ret
    exact ⟨rfl, rfl⟩
  · by_cases h2 : 2199023255552 ≤ n
    · have e : zagOf n = 0 := by simp [zagOf, h2]
      rw [e]
      go_enter Tryz.func65, Tryz.ntmps65
      go_wp2
      go_ret
      exact ⟨rfl, rfl⟩
    · by_cases h3 : n % 2 = 1
      · have e : zagOf n = -((n + 1) / 2) := by simp only [zagOf]; rw [if_neg (by omega), if_pos h3]
        rw [e]
        clear e
        have hm : n.tmod 2 = 1 := by rw [tmod2_pos n (by omega)]; exact h3
        have hd := tdiv2_neg n (by omega)
        go_enter Tryz.func65, Tryz.ntmps65
        go_wp2
        all_goals go_ret
        all_goals exact ⟨rfl, rfl⟩
      · have e : zagOf n = n / 2 := by simp only [zagOf]; rw [if_neg (by omega), if_neg h3]
        rw [e]
        clear e
        have hm : n.tmod 2 = 0 := by rw [tmod2_pos n (by omega)]; omega
        have hd := tdiv2_pos n (by omega)
        go_enter Tryz.func65, Tryz.ntmps65
        go_wp2
        all_goals go_ret
        all_goals exact ⟨rfl, rfl⟩

theorem zag_zig (n : Int) (h1 : -1099511627776 ≤ n) (h2 : n < 1099511627776) : zagOf (zigOf n) = n ∧ 0 ≤ zigOf n := by
  unfold zigOf
  rw [if_neg (by omega)]
  by_cases h : n < 0
  · rw [if_pos h]
    unfold zagOf
    rw [if_neg (by omega), if_pos (by omega)]
    omega
  · rw [if_neg h]
    unfold zagOf
    rw [if_neg (by omega), if_neg (by omega)]
    omega
theorem zig_zag (n : Int) (h1 : 0 ≤ n) (h2 : n < 2199023255552) : zigOf (zagOf n) = n := by
  unfold zagOf
  rw [if_neg (by omega)]
  by_cases h : n % 2 = 1
  · rw [if_pos h]
    unfold zigOf
    rw [if_neg (by omega), if_pos (by omega)]
    omega
  · rw [if_neg h]
    unfold zigOf
    rw [if_neg (by omega), if_neg (by omega)]
    omega

end Go.Proofs.YthkfaackkcdcoabGreat

/- The document's own digits of a sample, of residuals. -/
namespace Go.Proofs.YthkfaackkcdcoabGreat
set_option linter.unusedVariables false
set_option linter.unusedSimpArgs false
open Go.RowKit Dg

theorem OfAt.bt {w wr : World} {v : Value} {ds : List Bool} (h : OfAt w wr v ds) : BtAt wr v ds := BtAt.of_owns h.1
theorem OfAt.low {w w1 wr : World} {v : Value} {ds : List Bool} (h : OfAt w1 wr v ds) (hb : Below w.heap.size w w1) : OfAt w wr v ds := ⟨ownsRow_base h.1 hb.size, hb.trans (h.2.mono hb.size)⟩
theorem OfAt.drewN {w wr : World} {v : Value} {ds : List Bool} (h : OfAt w wr v ds) (n : Nat) : OfAt w (wr.drewN n) v ds := ⟨h.1, below_drewN h.2 n⟩
theorem BtAt.none (w : World) : BtAt w (.slice none 0 0) [] := .inl ⟨rfl, rfl⟩
/-- Put, as a walk spells it. -/
theorem rput_of (w : World) (v : Value) (ds : List Bool) (x : Int) (n : Nat) (hbt : BtAt w v ds) (hsm : ds.length ≤ 1000000) (hn : n ≤ 62) (D : List Bool) (hD : D = ds ++ dig x n) :
    Calls Tryz.prog 19 #[v, .int .i64 x, .int .i64 n] w fun e w' => ∃ v', e = .returned (.tuple #[v', .bool true]) ∧ OfAt w w' v' D := by
  refine (rput_any w v ds x n hbt hsm hn).mono ?_
  rintro e w' ⟨v', rfl, h1, h2⟩
  exact ⟨v', rfl, by rw [hD]; exact ⟨h1, h2⟩⟩
theorem rrice_of (w : World) (v : Value) (ds : List Bool) (z : Int) (k : Nat) (h : BtAt w v ds) (hlt : ds.length ≤ 900000) (hz : isNum z = true) (hk : k ≤ 24) (D : List Bool) (hD : D = ds ++ riceDig z k) :
    Calls Tryz.prog 43 #[v, .int .i64 z, .int .i64 k] w fun e w' => ∃ v', e = .returned (.tuple #[v', .bool true]) ∧ OfAt w w' v' D := by
  refine (rrice_any w v ds z k h hlt hz hk).mono ?_
  rintro e w' ⟨v', rfl, h1, h2⟩
  exact ⟨v', rfl, by rw [hD]; exact ⟨h1, h2⟩⟩

set_option maxHeartbeats 1000000 in
theorem rsample_any (w : World) (v : Value) (ds : List Bool) (x : Int) (h : BtAt w v ds) (hl : ds.length ≤ 1000000) (hx : isS x) (D : List Bool) (hD : D = ds ++ sampD x) :
    Calls Tryz.prog 20 #[v, .int .i64 x] w fun e w' => ∃ v', e = .returned v' ∧ OfAt w w' v' D := by
  obtain ⟨hx1, hx2⟩ := hx
  have HB := hid_of h
  have HD := hid_of hD
  clear h hD
  go_enter Tryz.func20, Tryz.ntmps20
  go_wp2_with fail
  refine (rput_of w v ds _ 24 HB.out hl (by decide) D HD.out).mono ?_
  rintro e w1 ⟨v1, rfl, h1⟩
  have H1 := hid_of h1
  clear h1
  go_wp2_with fail
  go_ret
  exact ⟨v1, rfl, H1.out⟩

theorem zigs_get {l : List Int} {k : Nat} {x : Int} (h : l[k]? = some x) : (zigs l)[k]? = some (zigOf x) := by unfold zigs; rw [List.getElem?_map, h]; rfl
theorem zigs_take (l : List Int) (k : Nat) : (zigs l).take k = zigs (l.take k) := by simp [zigs, List.map_take]

set_option maxRecDepth 100000 in
set_option maxHeartbeats 4000000 in
theorem rresiduals_any (w : World) (v : Value) (ds : List Bool) (a : Option Addr) (cap : Nat) (l : List Int) (h : BtAt w v ds) (hds : ds.length ≤ 100000) (hl : IntsAt w a l) (hll : l.length ≤ 1000) (D : List Bool) (hD : D = ds ++ residD l) :
    Calls Tryz.prog 22 #[v, .slice a l.length cap] w fun e w' => ∃ v', e = .returned (.tuple #[v', .bool (decide (okZ l))]) ∧ (okZ l → OfAt w w' v' D) ∧ Below w.heap.size w w' := by
  obtain ⟨i0, hi, hz0, hz1, hz2⟩ := info_parts Tryz.info3
  have HB := hid_of h
  have HL := hid_of hl
  obtain ⟨zs, hzs⟩ : ∃ zs, zs = zigs l := ⟨_, rfl⟩
  have HZL : Hid (zs.length = l.length) := by show _ = _; rw [hzs]; simp
  have HZG : Hid (∀ (k : Nat) (x : Int), l[k]? = some x → zs[k]? = some (zigOf x)) := by intro k x hx; rw [hzs]; exact zigs_get hx
  have HZO : Hid (okZ l ↔ ∀ z ∈ zs, z < 4294967296) := by show _ ↔ _; rw [hzs]; exact Iff.rfl
  have HZN : Hid (okZ l → ∀ z ∈ zs, isNum z = true) := by rw [hzs]; exact okZ_num
  obtain ⟨⟨bk, bs⟩, hbest⟩ : ∃ R, bestTo zs 24 = R := ⟨_, rfl⟩
  have HBEST := hid_of hbest
  have hbk : bk ≤ 24 := by have := bestTo_le zs 24; rw [hbest] at this; exact this
  have HD : Hid (D = ds ++ dig (bk : Int) 5 ++ digs zs bk) := by
    show _ = _
    have e : parOf l = bk := by unfold parOf; rw [← hzs, hbest]
    rw [hD, residD, e, ← hzs, List.append_assoc]
  clear h hl hzs hbest hD
  go_enter Tryz.func22, Tryz.ntmps22
  go_wp2_with fail
  go_loopw [6, 14] (fun vz i wr => ∃ k : Nat, k ≤ l.length ∧ i = .int .i64 (k : Int) ∧ Hid (∀ z ∈ zs.take k, z < 4294967296) ∧ Hid (OwnInts wr w.heap.size vz (zs.take k)) ∧ Hid (Below w.heap.size w wr)) (fun _ i _ => l.length - (intOf i).toNat)
  case atStart => exact ⟨0, Nat.zero_le _, rfl, fun z hz => by simp at hz, OwnInts.nil _ _, Below.refl _ _⟩
  case round =>
    obtain ⟨k, hk, rfl, hsm, ho, hb⟩ := hrel
    have hsz : w.heap.size ≤ wr.heap.size := hb.out.size
    by_cases hkn : k < l.length
    · obtain ⟨x, hx⟩ : ∃ x, l[k]? = some x := ⟨l[k], by simp [hkn]⟩
      obtain ⟨b, off, rfl, hc⟩ := HL.out.mono hb.out k x hx
      obtain ⟨z, hz⟩ : ∃ z, z = zigOf x := ⟨_, rfl⟩
      have HZ : Hid (zigOf x = z) := hz.symm
      have hzk : zs[k]? = some z := by rw [hz]; exact HZG.out k x hx
      have HNX := hid_of (take_next zs k z hzk)
      have hok : (zs.take k).length ≤ 1000000 := by rw [List.length_take, HZL.out]; omega
      by_cases hbig : 4294967296 ≤ z
      · have HN : Hid (¬ okZ l) := fun h1 => by have := HZO.out.1 h1 z (List.mem_of_getElem? hzk); omega
        have HF : Hid (decide (okZ l) = false) := decide_eq_false HN.out
        clear hx hz hzk
        go_wp2_with (go_at_call 41; refine (rzig_any _ _).mono ?_; rw [HZ.out]; rintro e w1 ⟨rfl, rfl⟩)
        go_ret2
        rw [HF.out]
        exact ⟨_, rfl, fun h1 => absurd h1 HN.out, hb.out⟩
      · have hbig' : z < 4294967296 := by omega
        have HSM : Hid (∀ y ∈ zs.take (k + 1), y < 4294967296) := by
          intro y hy
          rw [HNX.out] at hy
          rcases List.mem_append.1 hy with h1 | h1
          · exact hsm.out y h1
          · simp at h1; subst h1; exact hbig'
        clear hx hz hzk hsm
        go_wp2_with first
          | (go_at_call 41; refine (rzig_any _ _).mono ?_; rw [HZ.out]; rintro e w1 ⟨rfl, rfl⟩)
          | (at_builtin; go_must (refine wpList_append_int wr rfl (.tmp 25) (.tmp 27) 22 rfl w.heap.size i0 Tryz.underlying22 hi hz0 hz1 hz2 u6 (zs.take k) (by rfl) ho.out z (by rfl) hok hsz ?_))
        intro v' w' g1 g2
        have HO' : Hid (OwnInts w' w.heap.size v' (zs.take (k + 1))) := by rw [HNX.out]; exact g1
        have HB' : Hid (Below w.heap.size w w') := hb.out.trans g2.out
        clear g1 g2
        go_wp2_with fail
        exact ⟨⟨k + 1, by omega, by go_num, HSM, HO', HB'⟩, by (simp [intOf]) <;> omega⟩
    · have e : k = l.length := by omega
      have hsm' := hsm.out
      have ho' := ho.out
      rw [List.take_of_length_le (by rw [HZL.out]; omega)] at hsm' ho'
      have hok : okZ l := HZO.out.2 hsm'
      have HOK := hid_of hok
      have HT : Hid (decide (okZ l) = true) := decide_eq_true hok
      have HNUM := hid_of (HZN.out hok)
      obtain ⟨za, zc, hu6, hnz, -, -⟩ := ho'.ns
      subst hu6
      have HZA := hid_of hnz.at_
      have HBV : Hid (BtAt wr v ds) := HB.out.below hb.out
      have HBW := hid_of hb.out
      have hz1000 : zs.length ≤ 1000 := by rw [HZL.out]; exact hll
      subst e
      clear hsm hsm' ho ho' hok hnz hk hkn hb
      go_wp2_with fail
      refine (rbest_all wr za zc zs HZA.out (by omega) HNUM.out bk bs HBEST).mono ?_
      rintro e w1 ⟨rfl, rfl⟩
      go_wp2_with fail
      refine (rput_of wr v ds (bk : Int) 5 HBV.out (by omega) (by decide) _ rfl).mono ?_
      rintro e w2 ⟨v2, rfl, h2⟩
      have H2 := hid_of h2
      clear h2
      go_wp2_with fail
      go_loopw [0, 43] (fun vv i ws => ∃ j : Nat, j ≤ zs.length ∧ i = .int .i64 (j : Int) ∧ Hid (OfAt wr ws vv (ds ++ dig (bk : Int) 5 ++ digs (zs.take j) bk))) (fun _ i _ => zs.length - (intOf i).toNat)
      case atStart => exact ⟨0, Nat.zero_le _, rfl, by show OfAt _ _ _ _; rw [List.take_zero]; simpa [digs] using H2.out⟩
      case round =>
        obtain ⟨j, hj, rfl, hof⟩ := hrel
        by_cases hjn : j < zs.length
        · obtain ⟨z, hz⟩ : ∃ z, zs[j]? = some z := ⟨zs[j], by simp [hjn]⟩
          obtain ⟨b, off, rfl, hc⟩ := HZA.out.mono hof.out.2 j z hz
          have hzn := HNUM.out z (List.mem_of_getElem? hz)
          have HZN' := hid_of hzn
          obtain ⟨E, hE⟩ : ∃ E, E = ds ++ dig (bk : Int) 5 ++ digs (zs.take (j + 1)) bk := ⟨_, rfl⟩
          have HE : Hid (E = ds ++ dig (bk : Int) 5 ++ digs (zs.take j) bk ++ riceDig z bk) := by
            show _ = _
            rw [hE, take_next zs j z hz, digs_snoc]
            simp only [List.append_assoc]
          have hlen : (ds ++ dig (bk : Int) 5 ++ digs (zs.take j) bk).length ≤ 900000 := by
            have := (length_digs (zs.take j) bk (fun y hy => HNUM.out y (List.mem_of_mem_take hy)) hbk).2
            rw [List.length_take] at this
            simp
            omega
          have HEE := hid_of hE
          have HBT := hid_of hof.out.bt
          have HB2 := hid_of hof.out.2
          clear hz hzn hE
          go_wp2_with fail
          refine (rrice_of wr _ _ z bk HBT.out hlen HZN'.out hbk E HE.out).mono ?_
          rintro e w3 ⟨v3, rfl, h3⟩
          have H3 : Hid (OfAt _ w3 v3 E) := h3.low HB2.out
          rw [HEE.out] at H3
          clear h3
          go_wp2_with fail
          exact ⟨⟨j + 1, by omega, by go_num, H3⟩, by (simp [intOf]) <;> omega⟩
        · have ej : j = zs.length := by omega
          have HF : Hid (OfAt w wr u0 D) := by
            have h1 := hof.out
            rw [ej, List.take_length, ← HD.out] at h1
            exact h1.low HBW.out
          clear hof
          subst ej
          go_wp2_with fail
          go_ret2
          rw [HT.out]
          exact ⟨_, rfl, fun _ => HF.out, HF.out.2⟩

end Go.Proofs.YthkfaackkcdcoabGreat
