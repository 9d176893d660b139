/- The texts BlkR, Sums, Zeros, Crc6, Frm8, Frm9, FrmA, FrmB, BlkRef, one behind the other. -/
import Derived.Test.YtejgkgnocgplbaaGreatPart17
import Derived.Test.YtejgkgnocgplbaaGreatPart16
import Derived.Test.YtejgkgnocgplbaaGreatPart12
import Derived.Lib.AppendZeros
import Derived.Test.YtejgkgnocgplbaaGreatPart13
import Derived.Test.YtejgkgnocgplbaaGreatPart15

/- The bundle of contracts, whole: the five names that the laws lean on. -/
namespace Go.Proofs.YtejgkgnocgplbaaGreat
set_option linter.unusedVariables false
set_option linter.unusedSimpArgs false
open Go.RowKit Dg Cr

set_option maxHeartbeats 1000000 in
theorem sare_any (w : World) (a : Option Addr) (cap : Nat) (l : List Int) (h : IntsAt w a l) (hl : l.length ≤ 1000000) (t : Bool) (ht : t = decide (allS l)) :
    Calls Tryz.prog 28 #[.slice a l.length cap] w fun e w' => e = .returned (.bool t) ∧ w = w' := by
  have H : Hid (IntsAt w a l) := h
  have HT : Hid (t = decide (allS l)) := ht
  clear h ht
  go_enter Tryz.func28, Tryz.ntmps28
  go_wp2
  go_loopw [7] (fun i wr => ∃ k : Nat, k ≤ l.length ∧ i = .int .i64 k ∧ Hid (allS (l.take k)) ∧ w = wr) (fun i _ => l.length - (intOf i).toNat)
  case atStart => exact ⟨0, Nat.zero_le _, rfl, fun x hx => by simp at hx, rfl⟩
  case round =>
    obtain ⟨k, hk, rfl, hall, rfl⟩ := hrel
    by_cases hkn : k < l.length
    · obtain ⟨x, hx⟩ : ∃ x, l[k]? = some x := ⟨l[k], by simp [hkn]⟩
      obtain ⟨b, off, rfl, hc⟩ := H.out k x hx
      have HX : Hid (l[k]? = some x) := hx
      clear hx
      have hbad : ¬ isS x → t = false := fun hn => by
        rw [HT.out]
        exact decide_eq_false (fun ha => hn (ha x (List.mem_of_getElem? HX.out)))
      by_cases hlo : x < -8388608
      · have ht := hbad (by unfold isS; omega)
        subst ht
        clear hbad
        go_wp2_with fail
        go_ret
        exact ⟨rfl, rfl⟩
      · by_cases hhi : 8388607 < x
        · have ht := hbad (by unfold isS; omega)
          subst ht
          clear hbad
          go_wp2_with fail
          go_ret
          exact ⟨rfl, rfl⟩
        · clear hbad
          go_wp2_with fail
          refine ⟨⟨k + 1, by omega, by go_num, ?_, by trivial⟩, by (simp [intOf]) <;> omega⟩
          show allS _
          rw [take_next l k x HX.out]
          exact hall.out.snoc (by unfold isS; omega)
    · have e : k = l.length := by omega
      subst e
      have ht : t = true := by
        have := hall.out
        rw [List.take_length] at this
        rw [HT.out]; exact decide_eq_true this
      subst ht
      go_wp2_with fail
      go_ret
      exact ⟨rfl, rfl⟩

set_option maxRecDepth 100000 in
set_option maxHeartbeats 4000000 in
theorem sseal2_any : ∀ w b base top n m a cap l R, CoS w b base top n m → Bs w a cap l → (l ≠ [] → ∀ y, a = some y → ¬ InCo base top y.block) → l.length ≤ 100000 → n ≤ 100000 → (∀ x ∈ l, x < 256) → R = sealOut l →
    Calls Tryz.prog 16 #[.pointer (some ⟨b, 0, none⟩), .slice a l.length cap] w fun e w' => ∃ v, e = .returned (.tuple #[v, .int .i64 R.2]) ∧ OwnBytes w' w.heap.size v R.1 ∧ CoS w' b base top (if R.2 = 0 then n + 1 else n) m ∧ Kept (InCo base top) w w' := by
  intro w b base top n m a cap l R hco hb hf hl hn h256 hR
  unfold sealOut at hR
  have HCO := hid_of hco
  by_cases h : 124 < l.length
  · rw [if_pos h] at hR
    subst hR
    clear hco hb hf h256
    go_enter Tryz.func16, Tryz.ntmps16
    go_wp2_with fail
    go_ret2
    exact ⟨_, rfl, OwnBytes.nil _ _, HCO.out, Kept.refl _ _⟩
  · rw [if_neg h] at hR
    subst hR
    have HC := hid_of (sseal_any w b base top n m a cap l hco hb hf (by omega) (by omega) h256)
    clear hco hb hf h256
    go_enter Tryz.func16, Tryz.ntmps16
    go_wp2_with fail
    refine HC.out.mono ?_
    rintro e w1 ⟨v1, rfl, h1, hco1, hk1⟩
    have H1 := hid_of h1
    have HCO1 := hid_of hco1
    have HK1 := hid_of hk1
    clear h1 hco1 hk1
    go_wp2_with fail
    go_ret2
    exact ⟨_, rfl, H1.out, HCO1.out, HK1.out⟩

set_option maxRecDepth 100000 in
set_option maxHeartbeats 4000000 in
theorem sallno_any : ∀ w b base top n m a cap x, CoS w b base top n m → Ns w a cap x → (x ≠ [] → ∀ y, a = some y → ¬ InCo base top y.block) → x.length ≤ 100000 → ¬ allS x →
    Calls Tryz.prog 24 #[.pointer (some ⟨b, 0, none⟩), .slice a x.length cap] w fun e w' => ∃ v u, e = .returned (.tuple #[v, u, .int .i64 8]) ∧ CoS w' b base top n m ∧ Kept (InCo base top) w w' := by
  intro w b base top n m a cap x hco hx hf hl hS
  have HCO := hid_of hco
  have HA := hid_of (sare_any w a cap x hx.at_ (by omega) false (decide_eq_false hS).symm)
  clear hco hx hf hS
  go_enter Tryz.func24, Tryz.ntmps24
  go_wp2_with fail
  refine HA.out.mono ?_
  rintro e w0 ⟨rfl, rfl⟩
  go_wp2_with fail
  go_ret3
  exact ⟨_, _, rfl, HCO.out, Kept.refl _ _⟩

set_option maxRecDepth 100000 in
set_option maxHeartbeats 4000000 in
theorem spack2_any : PackC CoS := by
  intro w b base top n m a cap x R hco hx hf hl hn hR
  unfold packOut at hR
  have HCO := hid_of hco
  by_cases h0 : x.length = 0
  · rw [if_pos h0] at hR
    subst hR
    have hb : ((x.length : Int) == 0) = true := beq_iff_eq.2 (by omega)
    clear hco hx hf h0
    go_enter Tryz.func10, Tryz.ntmps10
    go_wp2_with fail
    go_ret3
    exact ⟨_, rfl, OwnBytes.nil _ _, HCO.out, Kept.refl _ _⟩
  rw [if_neg h0] at hR
  have hb : ((x.length : Int) == 0) = false := beq_eq_false_iff_ne.2 (by omega)
  by_cases hS : allS x
  · rw [if_pos hS] at hR
    subst hR
    have HA := hid_of (sare_any w a cap x hx.at_ (by omega) true (decide_eq_true hS).symm)
    obtain ⟨q, hq⟩ : ∃ q, q = manyN x := ⟨_, rfl⟩
    obtain ⟨E, hE⟩ : ∃ E, E = encB (x.take q) := ⟨_, rfl⟩
    have HPE : Hid (sealL E = packL x) := by show _ = _; rw [hE, hq]; rfl
    have hE124 : E.length ≤ 124 := by rw [hE, hq]; exact manyN_fits hS (by omega)
    have HE256 : Hid (∀ y ∈ E, y < 256) := by rw [hE]; exact encB_lt _
    have HC := hid_of (slong_any w a cap x hx (by omega) hl hS q hq E hE)
    have htop : top ≤ w.heap.size := hco.lt.2.2
    have HQ := hid_of hq
    clear hq hE
    clear hco hx hf h0 hS
    go_enter Tryz.func10, Tryz.ntmps10
    go_wp2_with fail
    refine HA.out.mono ?_
    rintro e w0 ⟨rfl, rfl⟩
    go_wp2_with fail
    refine HC.out.mono ?_
    rintro e w1 ⟨v1, rfl, h1, hb1⟩
    obtain ⟨ea, ec, rfl, hbs⟩ := OwnBytes.bs h1
    have HCO1 : Hid (CoS w1 b base top n m) := HCO.out.keep (Below.kept0 hb1) (fun i hi hf => by have := hi.2; omega)
    have HCS := hid_of (sseal_any w1 b base top n m ea ec E HCO1.out hbs (fun _ => far_own h1 (by omega)) hE124 (by omega) HE256.out)
    have HKB := hid_of (Below.kept0 hb1)
    clear h1 hb1 hbs HC HCO1
    go_wp2_with fail
    refine HCS.out.mono ?_
    rintro e w2 ⟨v2, rfl, h2, hco1, hk2⟩
    rw [HPE.out] at h2
    have h1 := ownsRow_base h2 HKB.out.size
    have hk1 : Kept (InCo base top) w w2 := (HKB.out.mono (G := InCo base top) (fun i hi hf => by omega)).trans hk2
    clear h2 hk2 HKB HCS
    have H1 := hid_of h1
    have HCO1 := hid_of hco1
    have HK1 := hid_of hk1
    clear h1 hco1 hk1
    go_wp2_with fail
    go_ret3
    exact ⟨_, by show _ = Ending.returned (Value.tuple #[_, .int .i64 ((manyN x : Nat) : Int), _]); rw [← HQ.out]; rfl, H1.out, HCO1.out, HK1.out⟩
  · rw [if_neg hS] at hR
    subst hR
    have HA := hid_of (sare_any w a cap x hx.at_ (by omega) false (decide_eq_false hS).symm)
    clear hco hx hf h0 hS
    go_enter Tryz.func10, Tryz.ntmps10
    go_wp2_with fail
    refine HA.out.mono ?_
    rintro e w0 ⟨rfl, rfl⟩
    go_wp2_with fail
    go_ret3
    exact ⟨_, rfl, OwnBytes.nil _ _, HCO.out, Kept.refl _ _⟩

theorem blkS : Blk CoS where
  lt := CoS.lt
  keep := CoS.keep
  newB := snew_any
  sealB := sseal2_any
  allNo := sallno_any
  allB := fun w b base top n m a cap x k hco hx hf hl hn hS hk => sall_any (Co := CoS) CoS.lt CoS.keep sseal_any w b base top n m a cap x k hco hx hf hl hn hS hk (fun wx h => sare_any wx a cap x h (by omega) true (decide_eq_true hS).symm)
theorem countS : CountC CoS := scount_any

end Go.Proofs.YtejgkgnocgplbaaGreat

/- CrcSums: the walk of the law. -/
namespace Go.Proofs.YtejgkgnocgplbaaGreat
set_option linter.unusedVariables false
set_option linter.unusedSimpArgs false
open Go.RowKit Dg Cr

end Go.Proofs.YtejgkgnocgplbaaGreat

/- Noughts behind a row of bytes of the call's own. -/
namespace Go.Proofs.YtejgkgnocgplbaaGreat
set_option linter.unusedVariables false
set_option linter.unusedSimpArgs false
open Go.RowKit Dg

theorem run_zeros (w : World) (base g n cap m : Nat) (l : List Nat) (h : w.ownsRow base 5 1 (.slice (some ⟨g, 0, none⟩) n cap) n (u8s l)) (hm : n + m ≤ 1000000) (hbase : base ≤ w.heap.size) :
    ∃ g' cap' w', (Builtin.append_ #[27, 3] 27 #[.slice (some ⟨g, 0, none⟩) n cap, .int .i64 m]).run Tryz.prog w = .ok (.slice (some ⟨g', 0, none⟩) (n + m) cap') w' ∧
      w'.ownsRow base 5 1 (.slice (some ⟨g', 0, none⟩) (n + m) cap') (n + m) (u8s (l ++ List.replicate m 0)) ∧ w.grownBy w' (some g) := by
  obtain ⟨i0, hi, hz0, hz1, hz2⟩ := info_parts Tryz.info5
  have hln : l.length = n := by have := h.1; simpa using this
  have hw : IntKind.i64.wrap (m : Int) = m := by rw [IntKind.wrap_i64]; omega
  have hneg : ¬ ((m : Int) < 0) := by omega
  have h48i : ¬ (281474976710656 < (m : Int)) := by omega
  rcases h.2 with ⟨e1, _⟩ | ⟨g', cap', cur, hv, hgb, hh, hncap, hcm, hcs, htake⟩
  · cases e1
  · cases hv
    by_cases hroom : n + m ≤ cap
    · have hap : (if m = 0 then (pure #[] : Sem (Array Value)) else pure (Builtin.zeroCells (Value.int .u8 0).cells m)) = pure (u8s (List.replicate m 0)).toArray := by
        by_cases h0 : m = 0
        · subst h0; simp [u8s]
        · rw [if_neg h0, ← zeros_u8]
      have hst := run_storeCells_at Tryz.prog g n 5 (u8s (List.replicate m 0)) 0 cur w hh (by simp; omega) (fun u hu => by simp [u8s] at hu; obtain ⟨_, rfl⟩ := hu; rfl)
      simp only [Nat.add_zero] at hst
      refine ⟨g, cap, w.setRow g (cur.toList.take n ++ u8s (List.replicate m 0) ++ cur.toList.drop (n + (u8s (List.replicate m 0)).length)).toArray, ?_, ⟨by simp [hln], .inr ⟨g, cap, _, rfl, hgb, setRow_heap w g cur _ 5 _ hh, hroom, hcm, ?_, ?_⟩⟩, ⟨rfl, rfl, rfl, by simp, fun k _ hk => setRow_other w g k _ (fun e => hk (by simp [e]))⟩⟩
      · simp [Builtin.append_, run_underlying Tryz.underlying27, run_underlying Tryz.underlying3, sizeOf, typeInfo, zeroValue, hi, hz0, hz1, hz2, asInt, asIntOf, hw, hneg, h48i, hroom, Addr.add_lit, hap]
        have hst' : ∀ vs, vs = u8s (List.replicate m 0) → Sem.run Tryz.prog (storeCells ⟨g, n, none⟩ vs) w = .ok () (w.setRow g (cur.toList.take n ++ (u8s (List.replicate m 0) ++ cur.toList.drop (n + m))).toArray) := by
          intro vs hvs
          rw [hvs, hst]
          simp
        by_cases h0 : m = 0
        · rw [if_pos h0, hst' [] (by rw [h0]; rfl)]; rfl
        · rw [if_neg h0, hst' _ (zeros_u8 m)]; rfl
      · simp; omega
      · rw [u8s_append]
        have h1 : cur.toList.take n = u8s l := by simpa using htake
        rw [h1]
        simp [hln]
        rw [← List.append_assoc, List.take_append_of_le_length (by simp [hln]), List.take_of_length_le (by simp [hln])]
    · have hm0 : m ≠ 0 := by omega
      have h63' : ¬ (9223372036854775807 < (n : Int) + (m : Int)) := by omega
      have h48' : ¬ (281474976710656 < Builtin.nextslicecap (n + m) cap) := by
        have := growslice_fits (need := n + m) (old := cap) (bytes := 1) (by omega) (by omega)
        omega
      have holds : ∀ j u, (u8s l)[j]? = some u → w.cell? ((⟨g, 0, none⟩ : Addr).add j) = some u := h.cells (g := g) rfl
      have hf := run_firstCells_some (P := Tryz.prog) w.drew 1 n ⟨g, 0, none⟩ n cap (u8s l) (by simp [hln]) holds
      have hge := grownCap_ge w (n + m) cap 5
      have hcm' : grownCap w (n + m) cap 5 ≤ maxLen := grownCap_le_maxLen w (n + m) cap 5 (by unfold maxLen; omega)
      refine ⟨w.heap.size, grownCap w (n + m) cap 5, w.drew.alloc (.cells ((u8s l).toArray ++ Builtin.zeroCells (Value.int .u8 0).cells m ++ Builtin.zeroCells (Value.int .u8 0).cells (grownCap w (n + m) cap 5 - (n + m))) 5), ?_, ⟨by simp [hln], .inr ⟨w.heap.size, _, _, rfl, hbase, heap_alloc_new w.drew _, hge, hcm', ?_, ?_⟩⟩, ⟨rfl, rfl, rfl, by simp, fun k hk _ => Below.heap_alloc w.drew _ k hk⟩⟩
      · simp [Builtin.append_, run_underlying Tryz.underlying27, run_underlying Tryz.underlying3, sizeOf, typeInfo, zeroValue, hi, hz0, hz1, hz2, asInt, asIntOf, hw, hneg, h48i, hroom, hm0, h63', h48', Question.forced, hf, newRow, grownCap]
      · simp [size_zeroCells, Value.cells, hln]; omega
      · rw [u8s_append, ← zeros_u8]
        simp only [Array.toList_append, List.append_assoc]
        rw [← List.append_assoc, List.take_append_of_le_length (by simp [size_zeroCells, Value.cells, hln])]
        exact List.take_of_length_le (by simp [size_zeroCells, Value.cells, hln])

end Go.Proofs.YtejgkgnocgplbaaGreat

/- A sum behind a row; noughts behind a row: appends to rows of the call's own. -/
namespace Go.Proofs.YtejgkgnocgplbaaGreat
set_option linter.unusedVariables false
set_option linter.unusedSimpArgs false
open Go.RowKit Dg Cr

/-- The four bytes of a sum in new memory. -/
theorem four_at (w : World) (X : Nat) (hX : X < 4294967296) : SlAt (w.alloc (.cells #[.int .u8 ((X : Int) / 16777216), .int .u8 ((X : Int) / 65536 % 256), .int .u8 ((X : Int) / 256 % 256), .int .u8 ((X : Int) % 256)] 5)) (.slice (some ⟨w.heap.size, 0, none⟩) 4 4) (bytes4 X) := by
  refine ⟨some ⟨w.heap.size, 0, none⟩, 4, rfl, fun j x hx => ⟨w.heap.size, 0, rfl, ?_⟩⟩
  have h0 : ((X / 16777216 % 256 : Nat) : Int) = (X : Int) / 16777216 := by omega
  have h1 : ((X / 65536 % 256 : Nat) : Int) = (X : Int) / 65536 % 256 := by omega
  have h2 : ((X / 256 % 256 : Nat) : Int) = (X : Int) / 256 % 256 := by omega
  have h3 : ((X % 256 : Nat) : Int) = (X : Int) % 256 := by omega
  match j, hx with
  | 0, hx => simp [bytes4] at hx; subst hx; simp only [World.cell?, heap_alloc_new, h0]; rfl
  | 1, hx => simp [bytes4] at hx; subst hx; simp only [World.cell?, heap_alloc_new, h1]; rfl
  | 2, hx => simp [bytes4] at hx; subst hx; simp only [World.cell?, heap_alloc_new, h2]; rfl
  | 3, hx => simp [bytes4] at hx; subst hx; simp only [World.cell?, heap_alloc_new, h3]; rfl

/-- The four bytes of a sum behind a row of the call's own. -/
theorem wpList_append_four (w : World) {ops : Array Oper} {rest : List Oper} {o : Oper} {a : Act} {Q : Exit → Act → World → Prop}
    (hgd : o.guard = none) (s x : Operand) (ho : o.op = .call { callee := .builtin .append, args := #[s, x], argTypes := #[27, 27] })
    (base : Nat) (v : Value) (l : List Nat) (X : Nat) (hs : a.eval s = v) (hown : w.ownsRow base 5 1 v l.length (u8s l)) (hx : a.eval x = .slice (some ⟨w.heap.size, 0, none⟩) 4 4)
    (hX : X < 4294967296) (hl : l.length ≤ 1000) (hbase : base ≤ w.heap.size)
    (h : ∀ g cap w', Hid (w'.ownsRow base 5 1 (.slice (some ⟨g, 0, none⟩) (l.length + 4) cap) (l.length + 4) (u8s (l ++ bytes4 X))) → Hid (Kept (fun k => v.ownBlock = some k) w w') → Hid (base ≤ g ∧ g < w'.heap.size) →
      wpList Tryz.prog ops Q rest (a.put o.dst (.slice (some ⟨g, 0, none⟩) (l.length + 4) cap)) w') :
    wpList Tryz.prog ops Q (o :: rest) a (w.alloc (.cells #[.int .u8 ((X : Int) / 16777216), .int .u8 ((X : Int) / 65536 % 256), .int .u8 ((X : Int) / 256 % 256), .int .u8 ((X : Int) % 256)] 5)) := by
  obtain ⟨i0, hi, hz0, hz1, hz2⟩ := info_parts Tryz.info5
  have e4 : [Value.int .u8 ((X : Int) / 16777216), .int .u8 ((X : Int) / 65536 % 256), .int .u8 ((X : Int) / 256 % 256), .int .u8 ((X : Int) % 256)] = u8s (bytes4 X) := by
    have h0 : ((X / 16777216 % 256 : Nat) : Int) = (X : Int) / 16777216 := by omega
    have h1 : ((X / 65536 % 256 : Nat) : Int) = (X : Int) / 65536 % 256 := by omega
    have h2 : ((X / 256 % 256 : Nat) : Int) = (X : Int) / 256 % 256 := by omega
    have h3 : ((X % 256 : Nat) : Int) = (X : Int) % 256 := by omega
    simp only [u8s, bytes4, List.map_cons, List.map_nil, h0, h1, h2, h3]
  refine wpList_append_mine _ hgd s x 27 ho base 5 i0 (.int .u8 0) 1 1 Tryz.underlying27 hi hz0 hz1 hz2 rfl (by decide) v l.length (u8s l) hs (hown.alloc _) ⟨w.heap.size, 0, none⟩ 4 4 [.int .u8 ((X : Int) / 16777216), .int .u8 ((X : Int) / 65536 % 256), .int .u8 ((X : Int) / 256 % 256), .int .u8 ((X : Int) % 256)] hx rfl ?c1 ?c2 (by decide) ?b1 ?b2 ?b3 ?_
  case c1 =>
    intro j u hj
    match j, hj with
    | 0, hj => simp at hj; subst hj; simp [Addr.add]
    | 1, hj => simp at hj; subst hj; simp [Addr.add]
    | 2, hj => simp at hj; subst hj; simp [Addr.add]
    | 3, hj => simp at hj; subst hj; simp [Addr.add]
  case c2 => intro u hu; simp at hu; rcases hu with rfl | rfl | rfl | rfl <;> rfl
  case b1 => unfold maxLen; omega
  case b2 => omega
  case b3 => simp; omega
  intro g cap w' h1 h2 h3
  have h1' := h1.out
  rw [e4, ← u8s_append] at h1'
  refine h g cap w' h1' ?_ ⟨(h1'.lt g rfl).1, (h1'.lt g rfl).2⟩
  have hk := Kept.grown h2.out
  exact ⟨hk.os, hk.tape, hk.output, Nat.le_trans (by simp) hk.size, fun k hk' hf => (hk.block k (by simp; omega) hf).trans (Below.heap_alloc w _ k hk')⟩

end Go.Proofs.YtejgkgnocgplbaaGreat

/- The document's own Decode: verbatim. -/
namespace Go.Proofs.YtejgkgnocgplbaaGreat
set_option linter.unusedVariables false
set_option linter.unusedSimpArgs false
open Go.RowKit Dg

set_option maxRecDepth 100000 in
set_option maxHeartbeats 4000000 in
theorem rdec_verb (w : World) (v : Value) (l : List Nat) (h : SlAt w v l) (hl : l.length ≤ 1000000) (hby : ∀ x ∈ l, x < 256) (K n : Nat) (hg1 : getOut (left l 0) 8 = (K, 8, true)) (hg2 : getOut (left l (0 + 8)) 8 = (n, 8, true)) (hK : K = 1) (hn1 : 1 ≤ n) (hn2 : n ≤ 64) (R : List Int × Int) (hR : R = outOf ((sampsT n (left l 16)).bind (finT K n))) :
    Calls Tryz.prog 41 #[v] w fun e w' => Gave w w' R e := by
  have HSL := hid_of h
  have HBY := hid_of hby
  clear h hby
  have HG1 := hid_of hg1
  have HG2 := hid_of hg2
  clear hg1 hg2
  obtain ⟨T, hT⟩ : ∃ T, T = sampsT n (left l 16) := ⟨_, rfl⟩
  have HT := hid_of hT
  have HR : Hid (R = outOf (T.bind (finT K n))) := by show _ = _; rw [hR, hT]
  clear hR hT
  have hb0 : (K == 0) = false := beq_eq_false_iff_ne.2 (by omega)
  have hb1 : (K == 1) = true := beq_iff_eq.2 hK
  have hK6 : K ≤ 6 := by omega
  have hK1 : K ≤ 1 := by omega
  have hK18 : K ≤ 18 := by omega
  have HK := hid_of hK
  clear hK
  go_enter Tryz.func41, Tryz.ntmps41
  go_wp2_with fail
  refine (of_any w v l HSL.out hl HBY.out).mono ?_
  rintro e w1 ⟨v1, rfl, h1, hb1⟩
  have HBT1 : Hid (BtAt w1 v1 (left l 0)) := by show BtAt _ _ _; rw [left_zero]; exact BtAt.of_owns h1
  have HB1 := hid_of hb1
  clear h1 hb1
  go_wp2_with fail
  refine (rget_all' w1 v1 l 0 8 HBT1.out _ HG1.out).mono ?_
  rintro e w2 ⟨v2, rfl, hb2, -, m2, rfl⟩
  have HBT2 := hid_of hb2
  clear hb2 HBT1
  go_wp2_with fail
  refine (rget_all' (w1.drewN m2) v2 l _ 8 HBT2.out _ HG2.out).mono ?_
  rintro e w3 ⟨v3, rfl, hb3, -, m3, rfl⟩
  have HBT3 : Hid (BtAt (w1.drewN (m2 + m3)) v3 (left l (0 + 8 + 8))) := hb3
  have HB3 : Hid (Below w.heap.size w (w1.drewN (m2 + m3))) := below_drewN HB1.out (m2 + m3)
  clear hb3 HBT2 HB1
  go_wp2_with fail
  generalize w1.drewN (m2 + m3) = w4 at *
  have hs4 : w.heap.size ≤ w4.heap.size := HB3.out.size
  refine (rsamples_any w4 v3 l 16 n HBT3.out (by omega) T HT.out).mono ?_
  intro e w5 hg
  cases hTT : T with
  | none =>
    rw [hTT] at hg
    have HN : Hid (R = ([], 2)) := by show _ = _; rw [HR.out, hTT]; rfl
    obtain ⟨x5, v5, rfl, hb5⟩ := hg
    have HB5 : Hid (Below w.heap.size w w5) := HB3.out.trans (hb5.mono hs4)
    clear hb5 hTT
    go_wp2_with fail
    go_ret2
    exact Gave.none HN.out HB5.out
  | some q =>
    obtain ⟨xs, r⟩ := q
    rw [hTT] at hg
    obtain ⟨x5, v5, p, rfl, ho5, hbt5, hr, hv5, hb5⟩ := hg
    simp only at ho5 hr
    have HXL : Hid (xs.length = n) := sampsT_len _ _ _ (HT.out.symm.trans hTT)
    have HR2 : Hid (R = outOf (finT K n (xs, left l p))) := by show _ = _; rw [HR.out, hTT, hr]; rfl
    have HB5 : Hid (Below w.heap.size w w5) := HB3.out.trans (hb5.mono hs4)
    have hs5 : w.heap.size ≤ w5.heap.size := HB5.out.size
    have HBT5 := hid_of hbt5
    have HO5 := hid_of ho5
    have HV5 : Hid (∀ k, v5.ownBlock = some k → k < w4.heap.size) := fun k hk => HBT3.out.lt k (hv5 k hk)
    have HLP := hid_of (left_short l p hl)
    have HBTW := hid_of hbt5
    have HBW := hid_of HB5.out
    have HOW : Hid (OwnInts w5 w.heap.size x5 xs) := ho5.base hs4
    clear ho5 hbt5 hr hv5 hb5 hTT
    go_wp2_with fail
    go_loopw [4, 11, 12] (fun b c i ws => v5 = b ∧ c = .slice none 0 0 ∧ i = .int .i64 0 ∧ w5 = ws) (fun _ _ _ _ => 0)
    case atStart => exact ⟨rfl, rfl, rfl, rfl⟩
    case round =>
      obtain ⟨rfl, rfl, rfl, rfl⟩ := hrel
      by_cases hno : noOnes (left l p) = true
      · have HQ : Hid (true = noOnes (left l p)) := hno.symm
        have HFIN : Hid (R = (xs, 0)) := by show _ = _; rw [HR2.out, HK.out, finT_verb, if_pos hno]; rfl
        clear hno
        go_wp2_with fail
        refine (rrest_all' w5 v5 _ HBTW.out HLP.out true HQ.out).mono ?_
        rintro e w9 ⟨rfl, rfl⟩
        go_wp2_with fail
        go_ret2
        rw [HFIN.out]
        exact ⟨_, rfl, HOW.out, HBW.out⟩
      · have hno' : noOnes (left l p) = false := by simpa using hno
        have HQ : Hid (false = noOnes (left l p)) := hno'.symm
        have HFIN : Hid (R = ([], 2)) := by show _ = _; rw [HR2.out, HK.out, finT_verb, if_neg hno]; rfl
        clear hno hno'
        go_wp2_with fail
        refine (rrest_all' w5 v5 _ HBTW.out HLP.out false HQ.out).mono ?_
        rintro e w9 ⟨rfl, rfl⟩
        go_wp2_with fail
        go_ret2
        exact Gave.none HFIN.out HBW.out

end Go.Proofs.YtejgkgnocgplbaaGreat

/- The document's own Decode: fixed. -/
namespace Go.Proofs.YtejgkgnocgplbaaGreat
set_option linter.unusedVariables false
set_option linter.unusedSimpArgs false
open Go.RowKit Dg

set_option maxRecDepth 100000 in
set_option maxHeartbeats 4000000 in
theorem rdec_fixed (w : World) (v : Value) (l : List Nat) (h : SlAt w v l) (hl : l.length ≤ 1000000) (hby : ∀ x ∈ l, x < 256) (K n : Nat) (hg1 : getOut (left l 0) 8 = (K, 8, true)) (hg2 : getOut (left l (0 + 8)) 8 = (n, 8, true)) (hK2 : 2 ≤ K) (hK6 : K ≤ 6) (o : Nat) (ho : o = K - 2) (hno : o ≤ n) (hn1 : 1 ≤ n) (hn2 : n ≤ 64) (R : List Int × Int) (hR : R = outOf ((sampsT o (left l 16)).bind (finT K n))) :
    Calls Tryz.prog 41 #[v] w fun e w' => Gave w w' R e := by
  have HSL := hid_of h
  have HBY := hid_of hby
  clear h hby
  have HG1 := hid_of hg1
  have HG2 := hid_of hg2
  clear hg1 hg2
  obtain ⟨T, hT⟩ : ∃ T, T = sampsT o (left l 16) := ⟨_, rfl⟩
  have HT := hid_of hT
  have HR : Hid (R = outOf (T.bind (finT K n))) := by show _ = _; rw [hR, hT]
  clear hR hT
  have hb0 : (K == 0) = false := beq_eq_false_iff_ne.2 (by omega)
  have hb1 : (K == 1) = false := beq_eq_false_iff_ne.2 (by omega)
  have hoI : (K : Int) - 2 = (o : Int) := by omega
  have hK1 : 1 < K := by omega
  have hK18 : K ≤ 18 := by omega
  have ho4 : o ≤ 4 := by omega
  have HOO : Hid (ordOf K n = o) := by show _ = _; unfold ordOf; rw [if_neg (by omega), if_neg (by omega), if_pos hK6]; exact ho.symm
  obtain ⟨m, hm⟩ : ∃ m, m = n - o := ⟨_, rfl⟩
  have hmI : (n : Int) - (o : Int) = (m : Int) := by omega
  have hm64 : m ≤ 64 := by omega
  have HME := hid_of hm
  clear ho hm
  go_enter Tryz.func41, Tryz.ntmps41
  go_wp2_with fail
  refine (of_any w v l HSL.out hl HBY.out).mono ?_
  rintro e w1 ⟨v1, rfl, h1, hb1⟩
  have HBT1 : Hid (BtAt w1 v1 (left l 0)) := by show BtAt _ _ _; rw [left_zero]; exact BtAt.of_owns h1
  have HB1 := hid_of hb1
  clear h1 hb1
  go_wp2_with fail
  refine (rget_all' w1 v1 l 0 8 HBT1.out _ HG1.out).mono ?_
  rintro e w2 ⟨v2, rfl, hb2, -, m2, rfl⟩
  have HBT2 := hid_of hb2
  clear hb2 HBT1
  go_wp2_with fail
  refine (rget_all' (w1.drewN m2) v2 l _ 8 HBT2.out _ HG2.out).mono ?_
  rintro e w3 ⟨v3, rfl, hb3, -, m3, rfl⟩
  have HBT3 : Hid (BtAt (w1.drewN (m2 + m3)) v3 (left l (0 + 8 + 8))) := hb3
  have HB3 : Hid (Below w.heap.size w (w1.drewN (m2 + m3))) := below_drewN HB1.out (m2 + m3)
  clear hb3 HBT2 HB1
  go_wp2_with fail
  generalize w1.drewN (m2 + m3) = w4 at *
  have hs4 : w.heap.size ≤ w4.heap.size := HB3.out.size
  refine (rsamples_any w4 v3 l 16 o HBT3.out (by omega) T HT.out).mono ?_
  intro e w5 hg
  cases hTT : T with
  | none =>
    rw [hTT] at hg
    have HN : Hid (R = ([], 2)) := by show _ = _; rw [HR.out, hTT]; rfl
    obtain ⟨x5, v5, rfl, hb5⟩ := hg
    have HB5 : Hid (Below w.heap.size w w5) := HB3.out.trans (hb5.mono hs4)
    clear hb5 hTT
    go_wp2_with fail
    go_ret2
    exact Gave.none HN.out HB5.out
  | some q =>
    obtain ⟨xs, r⟩ := q
    rw [hTT] at hg
    obtain ⟨x5, v5, p, rfl, ho5, hbt5, hr, hv5, hb5⟩ := hg
    simp only at ho5 hr
    have HXL : Hid (xs.length = o) := sampsT_len _ _ _ (HT.out.symm.trans hTT)
    have HR2 : Hid (R = outOf (finT K n (xs, left l p))) := by show _ = _; rw [HR.out, hTT, hr]; rfl
    have HB5 : Hid (Below w.heap.size w w5) := HB3.out.trans (hb5.mono hs4)
    have hs5 : w.heap.size ≤ w5.heap.size := HB5.out.size
    have HBT5 := hid_of hbt5
    have HO5 := hid_of ho5
    have HV5 : Hid (∀ k, v5.ownBlock = some k → k < w4.heap.size) := fun k hk => HBT3.out.lt k (hv5 k hk)
    have HLP := hid_of (left_short l p hl)
    have hbt5' := hbt5
    clear ho5 hbt5 hr hv5 hb5 hTT hbt5'
    obtain ⟨xa, xc, rfl, hxn, -, -⟩ := HO5.out.ns
    have HXN := hid_of hxn
    clear hxn
    obtain ⟨T2, hT2⟩ : ∃ T2, T2 = resT m (left l p) := ⟨_, rfl⟩
    have HT2 := hid_of hT2
    have HR3 : Hid (R = outOf ((T2.bind fun q => if (restOut xs q.1).2 = 0 then some ((restOut xs q.1).1, q.2) else none).bind fun y => if noOnes y.2 = true then some y.1 else none)) := by
      show _ = _
      rw [HR2.out, finT, bodyT, if_neg (by omega), if_neg (by omega), if_pos hK6, HOO.out, ← HME.out, hT2]
    clear hT2
    go_wp2_with fail
    go_loopw [4, 11, 12] (fun b c i ws => v5 = b ∧ c = .slice none 0 0 ∧ i = .int .i64 0 ∧ w5 = ws) (fun _ _ _ _ => 0)
    case atStart => exact ⟨rfl, rfl, rfl, rfl⟩
    case round =>
      obtain ⟨rfl, rfl, rfl, rfl⟩ := hrel
      go_wp2_with fail
      refine (rtakeres_any w5 v5 l p m HBT5.out (by omega) T2 HT2.out).mono ?_
      intro e w6 hg
      cases hTT : T2 with
      | none =>
        rw [hTT] at hg
        have HN : Hid (R = ([], 2)) := by show _ = _; rw [HR3.out, hTT]; rfl
        obtain ⟨x6, v6, rfl, hb6⟩ := hg
        have HB6 : Hid (Below w.heap.size w w6) := HB5.out.trans (hb6.mono hs5)
        clear hb6 hTT
        go_wp2_with fail
        go_ret2
        exact Gave.none HN.out HB6.out
      | some q =>
        obtain ⟨zs, r2⟩ := q
        rw [hTT] at hg
        obtain ⟨x6, v6, p2, rfl, ho6, hbt6, hr2, -, hb6⟩ := hg
        simp only at ho6 hr2
        obtain ⟨hi6, hl6⟩ := resT_i64 (HT2.out.symm.trans hTT)
        simp only at hi6 hl6
        obtain ⟨za, zc, rfl, hzn, -, -⟩ := ho6.ns
        have HZN := hid_of hzn.at_
        have HI6 := hid_of hi6
        have hl64 : zs.length ≤ 64 := by omega
        have HXN6 : Hid (Ns w6 xa xc xs) := HXN.out.mono hb6
        have HB6 : Hid (Below w.heap.size w w6) := HB5.out.trans (hb6.mono hs5)
        have hs6 : w.heap.size ≤ w6.heap.size := HB6.out.size
        have HBT6 := hid_of hbt6
        have hxl4 : xs.length ≤ 4 := by rw [HXL.out]; exact ho4
        obtain ⟨⟨Y, k⟩, hRY⟩ : ∃ RY, RY = restOut xs zs := ⟨_, rfl⟩
        have HRY := hid_of hRY
        have HR4 : Hid (R = outOf ((if k = 0 then some (Y, left l p2) else none).bind fun y => if noOnes y.2 = true then some y.1 else none)) := by
          show _ = _
          rw [HR3.out, hTT, hr2]
          simp only [Option.bind_some]
          rw [← hRY]
        have HLP2 := hid_of (left_short l p2 hl)
        clear ho6 hbt6 hr2 hb6 hTT hi6 hl6 hzn hRY
        go_wp2_with fail
        refine (rrest_any w6 xa za xc zc xs zs HXN6.out HZN.out (by omega) (by omega) HI6.out _ HRY.out).mono ?_
        rintro e w7 hg
        obtain ⟨a7, c7, rfl, ho7, -, hb7⟩ := hg.ok
        have HO7 := hid_of ho7
        have HB7 : Hid (Below w.heap.size w w7) := HB6.out.trans (hb7.mono hs6)
        have HBT7 : Hid (BtAt w7 v6 (left l p2)) := HBT6.out.below hb7
        clear hg ho7 hb7
        by_cases hk0 : k = 0
        · have hkb : (k != 0) = false := by simp [hk0]
          have HR5 : Hid (R = outOf (if noOnes (left l p2) = true then some Y else none)) := by show _ = _; rw [HR4.out, if_pos hk0]; rfl
          clear hk0
          by_cases hno : noOnes (left l p2) = true
          · have HQ : Hid (true = noOnes (left l p2)) := hno.symm
            have HFIN : Hid (R = (Y, 0)) := by show _ = _; rw [HR5.out, if_pos hno]; rfl
            clear hno
            go_wp2_with fail
            refine (rrest_all' w7 v6 _ HBT7.out HLP2.out true HQ.out).mono ?_
            rintro e w9 ⟨rfl, rfl⟩
            go_wp2_with fail
            go_ret2
            rw [HFIN.out]
            exact ⟨_, rfl, (HO7.out.base hs6), HB7.out⟩
          · have hno' : noOnes (left l p2) = false := by simpa using hno
            have HQ : Hid (false = noOnes (left l p2)) := hno'.symm
            have HFIN : Hid (R = ([], 2)) := by show _ = _; rw [HR5.out, if_neg hno]; rfl
            clear hno hno'
            go_wp2_with fail
            refine (rrest_all' w7 v6 _ HBT7.out HLP2.out false HQ.out).mono ?_
            rintro e w9 ⟨rfl, rfl⟩
            go_wp2_with fail
            go_ret2
            exact Gave.none HFIN.out HB7.out
        · have hkb : (k != 0) = true := by simp [hk0]
          have HN : Hid (R = ([], 2)) := by show _ = _; rw [HR4.out, if_neg hk0]; rfl
          clear hk0
          go_wp2_with fail
          go_ret2
          exact Gave.none HN.out HB7.out

end Go.Proofs.YtejgkgnocgplbaaGreat

/- The document's own Decode: constant. -/
namespace Go.Proofs.YtejgkgnocgplbaaGreat
set_option linter.unusedVariables false
set_option linter.unusedSimpArgs false
open Go.RowKit Dg

def lenV : Value → Nat
  | .slice _ n _ => n
  | _ => 0

set_option maxRecDepth 100000 in
set_option maxHeartbeats 4000000 in
theorem rdec_const (w : World) (v : Value) (l : List Nat) (h : SlAt w v l) (hl : l.length ≤ 1000000) (hby : ∀ x ∈ l, x < 256) (K n : Nat) (hg1 : getOut (left l 0) 8 = (K, 8, true)) (hg2 : getOut (left l (0 + 8)) 8 = (n, 8, true)) (hK : K = 0) (hn1 : 1 ≤ n) (hn2 : n ≤ 64) (R : List Int × Int) (hR : R = outOf ((sampsT 1 (left l 16)).bind (finT K n))) :
    Calls Tryz.prog 41 #[v] w fun e w' => Gave w w' R e := by
  obtain ⟨i0, hi, hz0, hz1, hz2⟩ := info_parts Tryz.info3
  have HSL := hid_of h
  have HBY := hid_of hby
  clear h hby
  have HG1 := hid_of hg1
  have HG2 := hid_of hg2
  clear hg1 hg2
  obtain ⟨T, hT⟩ : ∃ T, T = sampsT 1 (left l 16) := ⟨_, rfl⟩
  have HT := hid_of hT
  have HR : Hid (R = outOf (T.bind (finT K n))) := by show _ = _; rw [hR, hT]
  clear hR hT
  have hb0 : (K == 0) = true := beq_iff_eq.2 hK
  have hK6 : K ≤ 6 := by omega
  have hK1 : K ≤ 1 := by omega
  have hK18 : K ≤ 18 := by omega
  have HK := hid_of hK
  clear hK
  go_enter Tryz.func41, Tryz.ntmps41
  go_wp2_with fail
  refine (of_any w v l HSL.out hl HBY.out).mono ?_
  rintro e w1 ⟨v1, rfl, h1, hb1⟩
  have HBT1 : Hid (BtAt w1 v1 (left l 0)) := by show BtAt _ _ _; rw [left_zero]; exact BtAt.of_owns h1
  have HB1 := hid_of hb1
  clear h1 hb1
  go_wp2_with fail
  refine (rget_all' w1 v1 l 0 8 HBT1.out _ HG1.out).mono ?_
  rintro e w2 ⟨v2, rfl, hb2, -, m2, rfl⟩
  have HBT2 := hid_of hb2
  clear hb2 HBT1
  go_wp2_with fail
  refine (rget_all' (w1.drewN m2) v2 l _ 8 HBT2.out _ HG2.out).mono ?_
  rintro e w3 ⟨v3, rfl, hb3, -, m3, rfl⟩
  have HBT3 : Hid (BtAt (w1.drewN (m2 + m3)) v3 (left l (0 + 8 + 8))) := hb3
  have HB3 : Hid (Below w.heap.size w (w1.drewN (m2 + m3))) := below_drewN HB1.out (m2 + m3)
  clear hb3 HBT2 HB1
  go_wp2_with fail
  generalize w1.drewN (m2 + m3) = w4 at *
  have hs4 : w.heap.size ≤ w4.heap.size := HB3.out.size
  refine (rsamples_any w4 v3 l 16 1 HBT3.out (by omega) T HT.out).mono ?_
  intro e w5 hg
  cases hTT : T with
  | none =>
    rw [hTT] at hg
    have HN : Hid (R = ([], 2)) := by show _ = _; rw [HR.out, hTT]; rfl
    obtain ⟨x5, v5, rfl, hb5⟩ := hg
    have HB5 : Hid (Below w.heap.size w w5) := HB3.out.trans (hb5.mono hs4)
    clear hb5 hTT
    go_wp2_with fail
    go_ret2
    exact Gave.none HN.out HB5.out
  | some q =>
    obtain ⟨xs, r⟩ := q
    rw [hTT] at hg
    obtain ⟨x5, v5, p, rfl, ho5, hbt5, hr, hv5, hb5⟩ := hg
    simp only at ho5 hr
    have HXL : Hid (xs.length = 1) := sampsT_len _ _ _ (HT.out.symm.trans hTT)
    have HR2 : Hid (R = outOf (finT K n (xs, left l p))) := by show _ = _; rw [HR.out, hTT, hr]; rfl
    have HB5 : Hid (Below w.heap.size w w5) := HB3.out.trans (hb5.mono hs4)
    have hs5 : w.heap.size ≤ w5.heap.size := HB5.out.size
    have HBT5 := hid_of hbt5
    have HO5 := hid_of ho5
    have HV5 : Hid (∀ k, v5.ownBlock = some k → k < w4.heap.size) := fun k hk => HBT3.out.lt k (hv5 k hk)
    have HLP := hid_of (left_short l p hl)
    have hs45 : w4.heap.size ≤ w5.heap.size := hb5.size
    clear ho5 hbt5 hr hv5 hb5 hTT
    obtain ⟨x0, hx0⟩ : ∃ x0, xs[0]? = some x0 := ⟨xs[0]'(by rw [HXL.out]; decide), by simp⟩
    have HX0 := hid_of (getD_of hx0)
    have HALL : Hid (∀ y ∈ xs, y = x0) := by
      intro y hy
      have h1 := HXL.out
      match xs, h1, hx0, hy with
      | [z], _, h2, h3 => simp at h2 h3; rw [h3, h2]
    have hxs1 : xs.length ≤ n := by rw [HXL.out]; exact hn1
    have hxs2 : 1 ≤ xs.length := by rw [HXL.out]; exact Nat.le_refl _
    clear hx0
    go_wp2_with fail
    go_loopw [10] (fun u ws => ∃ L : List Int, 1 ≤ L.length ∧ L.length ≤ n ∧ Hid (∀ y ∈ L, y = x0) ∧ Hid (OwnInts ws w4.heap.size u L) ∧ Hid (Below w4.heap.size w5 ws)) (fun u _ => n - lenV u)
    case atStart => exact ⟨xs, hxs2, hxs1, HALL.out, HO5.out, Below.refl _ _⟩
    case round =>
      obtain ⟨L, hL1, hL2, hall, ho, hb⟩ := hrel
      obtain ⟨xa, xc, rfl, hxn, -, -⟩ := ho.out.ns
      have HXN := hid_of hxn.at_
      have hsz : w4.heap.size ≤ wr.heap.size := Nat.le_trans hs45 hb.out.size
      clear hxn
      by_cases hLn : L.length < n
      · have hL0 : L[0]? = some x0 := by
          have h1 : L[0]? = some (L[0]'(by omega)) := by simp
          rw [h1, hall.out _ (List.getElem_mem (by omega))]
        obtain ⟨b, off, rfl, hc⟩ := HXN.out 0 x0 hL0
        rw [Nat.add_zero] at hc
        have hl6 : L.length ≤ 1000000 := by omega
        clear hL0
        go_wp2_with (at_builtin; go_must (refine wpList_append_int wr rfl (.tmp 93) (.tmp 97) 22 rfl w4.heap.size i0 Tryz.underlying22 hi hz0 hz1 hz2 (.slice (some ⟨b, off, none⟩) L.length xc) L (by rfl) ho.out x0 (by rfl) hl6 hsz ?_))
        intro v' w' g1 g2
        have HB' : Hid (Below w4.heap.size w5 w') := hb.out.trans g2.out
        have HA' : Hid (∀ y ∈ L ++ [x0], y = x0) := by
          intro y hy
          rcases List.mem_append.1 hy with h1 | h1
          · exact hall.out y h1
          · simpa using h1
        obtain ⟨a', c', rfl, -, -⟩ := g1.out.ns
        clear g2
        go_wp2_with fail
        exact ⟨⟨L ++ [x0], by simp, by simp; omega, HA', g1, HB'⟩, by (simp [lenV]) <;> omega⟩
      · have hLe : L.length = n := by omega
        have HLE : Hid (L = List.replicate n x0) := List.eq_replicate_iff.2 ⟨hLe, hall.out⟩
        have hLn' : n ≤ L.length := by omega
        have HBTW : Hid (BtAt wr v5 (left l p)) := HBT5.out.under hb.out HV5.out
        have HBW : Hid (Below w.heap.size w wr) := HB5.out.trans (hb.out.mono hs4)
        have HOW : Hid (OwnInts wr w.heap.size (.slice xa L.length xc) L) := ho.out.base hs4
        clear hLe hLn hall ho hb
        go_wp2_with fail
        go_loopw [4, 11, 12] (fun b c i ws => v5 = b ∧ c = .slice none 0 0 ∧ i = .int .i64 0 ∧ wr = ws) (fun _ _ _ _ => 0)
        case atStart => exact ⟨rfl, rfl, rfl, rfl⟩
        case round =>
          obtain ⟨rfl, rfl, rfl, rfl⟩ := hrel
          by_cases hno : noOnes (left l p) = true
          · have HQ : Hid (true = noOnes (left l p)) := hno.symm
            have HFIN : Hid (R = (L, 0)) := by show _ = _; rw [HR2.out, HK.out, finT_const, if_pos hno, HX0.out, HLE.out]; rfl
            clear hno
            go_wp2_with fail
            refine (rrest_all' wr v5 _ HBTW.out HLP.out true HQ.out).mono ?_
            rintro e w9 ⟨rfl, rfl⟩
            go_wp2_with fail
            go_ret2
            rw [HFIN.out]
            exact ⟨_, rfl, HOW.out, HBW.out⟩
          · have hno' : noOnes (left l p) = false := by simpa using hno
            have HQ : Hid (false = noOnes (left l p)) := hno'.symm
            have HFIN : Hid (R = ([], 2)) := by show _ = _; rw [HR2.out, HK.out, finT_const, if_neg hno]; rfl
            clear hno hno'
            go_wp2_with fail
            refine (rrest_all' wr v5 _ HBTW.out HLP.out false HQ.out).mono ?_
            rintro e w9 ⟨rfl, rfl⟩
            go_wp2_with fail
            go_ret2
            exact Gave.none HFIN.out HBW.out

end Go.Proofs.YtejgkgnocgplbaaGreat

/- The document's own Decode: LPC, and any bytes. -/
namespace Go.Proofs.YtejgkgnocgplbaaGreat
set_option linter.unusedVariables false
set_option linter.unusedSimpArgs false
open Go.RowKit Dg

set_option maxRecDepth 100000 in
set_option maxHeartbeats 8000000 in
theorem rdec_lpc (w : World) (v : Value) (l : List Nat) (h : SlAt w v l) (hl : l.length ≤ 1000000) (hby : ∀ x ∈ l, x < 256) (K n : Nat) (hg1 : getOut (left l 0) 8 = (K, 8, true)) (hg2 : getOut (left l (0 + 8)) 8 = (n, 8, true)) (hK7 : 6 < K) (hK18 : K ≤ 18) (o : Nat) (ho : o = K - 6) (hno : o < n) (hn1 : 1 ≤ n) (hn2 : n ≤ 64) (R : List Int × Int) (hR : R = outOf ((sampsT o (left l 16)).bind (finT K n))) :
    Calls Tryz.prog 41 #[v] w fun e w' => Gave w w' R e := by
  obtain ⟨i0, hi, hz0, hz1, hz2⟩ := info_parts Tryz.info3
  have HSL := hid_of h
  have HBY := hid_of hby
  clear h hby
  have HG1 := hid_of hg1
  have HG2 := hid_of hg2
  clear hg1 hg2
  obtain ⟨T, hT⟩ : ∃ T, T = sampsT o (left l 16) := ⟨_, rfl⟩
  have HT := hid_of hT
  have HR : Hid (R = outOf (T.bind (finT K n))) := by show _ = _; rw [hR, hT]
  clear hR hT
  have hb0 : (K == 0) = false := beq_eq_false_iff_ne.2 (by omega)
  have hb1 : (K == 1) = false := beq_eq_false_iff_ne.2 (by omega)
  have hoI : (K : Int) - 6 = (o : Int) := by omega
  have hK1 : 1 < K := by omega
  have ho12 : o ≤ 12 := by omega
  have HOO : Hid (ordOf K n = o) := by show _ = _; unfold ordOf; rw [if_neg (by omega), if_neg (by omega), if_neg (by omega)]; exact ho.symm
  obtain ⟨m, hm⟩ : ∃ m, m = n - o := ⟨_, rfl⟩
  have hmI : (n : Int) - (o : Int) = (m : Int) := by omega
  have hm64 : m ≤ 64 := by omega
  have hon : o ≤ n := by omega
  have HME := hid_of hm
  clear ho hm
  go_enter Tryz.func41, Tryz.ntmps41
  go_wp2_with fail
  refine (of_any w v l HSL.out hl HBY.out).mono ?_
  rintro e w1 ⟨v1, rfl, h1, hb1⟩
  have HBT1 : Hid (BtAt w1 v1 (left l 0)) := by show BtAt _ _ _; rw [left_zero]; exact BtAt.of_owns h1
  have HB1 := hid_of hb1
  clear h1 hb1
  go_wp2_with fail
  refine (rget_all' w1 v1 l 0 8 HBT1.out _ HG1.out).mono ?_
  rintro e w2 ⟨v2, rfl, hb2, -, m2, rfl⟩
  have HBT2 := hid_of hb2
  clear hb2 HBT1
  go_wp2_with fail
  refine (rget_all' (w1.drewN m2) v2 l _ 8 HBT2.out _ HG2.out).mono ?_
  rintro e w3 ⟨v3, rfl, hb3, -, m3, rfl⟩
  have HBT3 : Hid (BtAt (w1.drewN (m2 + m3)) v3 (left l (0 + 8 + 8))) := hb3
  have HB3 : Hid (Below w.heap.size w (w1.drewN (m2 + m3))) := below_drewN HB1.out (m2 + m3)
  clear hb3 HBT2 HB1
  go_wp2_with fail
  generalize w1.drewN (m2 + m3) = w4 at *
  have hs4 : w.heap.size ≤ w4.heap.size := HB3.out.size
  refine (rsamples_any w4 v3 l 16 o HBT3.out (by omega) T HT.out).mono ?_
  intro e w5 hg
  cases hTT : T with
  | none =>
    rw [hTT] at hg
    have HN : Hid (R = ([], 2)) := by show _ = _; rw [HR.out, hTT]; rfl
    obtain ⟨x5, v5, rfl, hb5⟩ := hg
    have HB5 : Hid (Below w.heap.size w w5) := HB3.out.trans (hb5.mono hs4)
    clear hb5 hTT
    go_wp2_with fail
    go_ret2
    exact Gave.none HN.out HB5.out
  | some q =>
    obtain ⟨xs, r⟩ := q
    rw [hTT] at hg
    obtain ⟨x5, v5, p, rfl, ho5, hbt5, hr, hv5, hb5⟩ := hg
    simp only at ho5 hr
    have HXL : Hid (xs.length = o) := sampsT_len _ _ _ (HT.out.symm.trans hTT)
    have HR2 : Hid (R = outOf (finT K n (xs, left l p))) := by show _ = _; rw [HR.out, hTT, hr]; rfl
    have HB5 : Hid (Below w.heap.size w w5) := HB3.out.trans (hb5.mono hs4)
    have hs5 : w.heap.size ≤ w5.heap.size := HB5.out.size
    have HBT5 := hid_of hbt5
    have HO5 := hid_of ho5
    have HV5 : Hid (∀ k, v5.ownBlock = some k → k < w4.heap.size) := fun k hk => HBT3.out.lt k (hv5 k hk)
    have HLP := hid_of (left_short l p hl)
    clear ho5 hbt5 hr hv5 hb5 hTT
    obtain ⟨xa, xc, rfl, hxn, -, -⟩ := HO5.out.ns
    have HXN := hid_of hxn
    clear hxn
    obtain ⟨TC, hTC⟩ : ∃ TC, TC = coefsT o (left l p) := ⟨_, rfl⟩
    have HTC : Hid (TC = (coefsT (o - 0) (left l p)).map fun q => ([] ++ q.1, q.2)) := by show _ = _; rw [hTC, Nat.sub_zero]; cases coefsT o (left l p) <;> rfl
    have HR3 : Hid (R = outOf ((TC.bind fun c => (resT m c.2).bind fun q => if (lrestOut xs q.1 c.1).2 = 0 then some ((lrestOut xs q.1 c.1).1, q.2) else none).bind fun y => if noOnes y.2 = true then some y.1 else none)) := by
      show _ = _
      rw [HR2.out, finT, bodyT, if_neg (by omega), if_neg (by omega), if_neg (by omega), HOO.out, ← HME.out, hTC]
    have HLT5 := hid_of HBT5.out.lt
    clear hTC
    go_wp2_with fail
    go_loopw [4, 11, 12] (fun b c i ws => ∃ (k p : Nat) (out : List Int), k ≤ o ∧ i = .int .i64 (k : Int) ∧ out.length ≤ 1000000 ∧ Hid (out.length = k) ∧ Hid (TC = (coefsT (o - k) (left l p)).map fun q => (out ++ q.1, q.2)) ∧ Hid (OwnInts ws w5.heap.size c out) ∧ Hid (BtAt ws b (left l p)) ∧ Hid (∀ k, b.ownBlock = some k → v5.ownBlock = some k) ∧ Hid (Below w5.heap.size w5 ws)) (fun _ _ i _ => o - (intOf i).toNat)
    case atStart => exact ⟨0, p, [], Nat.zero_le _, rfl, by decide, rfl, HTC.out, OwnInts.nil _ _, HBT5.out, fun _ h => h, Below.refl _ _⟩
    case round =>
      obtain ⟨k, p1, out, hk, rfl, hol, HOL, ht, hoo, hbt, hvv, hb⟩ := hrel
      have hsz : w5.heap.size ≤ wr.heap.size := hb.out.size
      have HBW : Hid (Below w.heap.size w wr) := HB5.out.trans (hb.out.mono hs5)
      have hsw : w.heap.size ≤ wr.heap.size := HBW.out.size
      by_cases hkn : k < o
      · have ek : o - k = (o - (k + 1)) + 1 := by omega
        by_cases hlen : 16 ≤ (left l p1).length
        · obtain ⟨z, hz16, e1, e2⟩ := takeD_left (l := l) (p := p1) (n := 16) (by decide) hlen
          have hzb : z < 65536 := by omega
          have HG : Hid (getOut (left l p1) 16 = (z, 16, true)) := e2
          obtain ⟨y, hy⟩ : ∃ y, (z : Int) - 32768 = y := ⟨_, rfl⟩
          have HNX : Hid (TC = (coefsT (o - (k + 1)) (left l (p1 + 16))).map fun q => ((out ++ [y]) ++ q.1, q.2)) := by
            show _ = _
            rw [ht.out, ek, coefsT, e1, ← hy]
            simp only [Option.bind_some]
            cases coefsT (o - (k + 1)) (left l (p1 + 16)) <;> simp
          clear e1 e2 hz16 hlen
          go_wp2_with first
            | (go_at_call 61; refine (rget_all' wr _ l p1 16 hbt.out _ HG.out).mono ?_; rintro e w6 ⟨v6, rfl, hb6, hv6, m6, rfl⟩; have HB6 := hid_of hb6; have HV6 := hid_of hv6; clear hb6 hv6)
            | (at_builtin; go_must (refine wpList_append_int (wr.drewN m6) rfl (.tmp 116) (.tmp 119) 22 rfl w5.heap.size i0 Tryz.underlying22 hi hz0 hz1 hz2 u11 out (by rfl) (hoo.out.drewN m6) y (by rfl) hol hsz ?_))
          intro v' w' g1 g2
          have HBB : Hid (Below w5.heap.size w5 w') := (below_drewN hb.out m6).trans g2.out
          have HBT' : Hid (BtAt w' v6 (left l (p1 + 16))) := HB6.out.under g2.out (fun k hk => HLT5.out k (hvv.out k (HV6.out k hk)))
          have HVV' : Hid (∀ k, v6.ownBlock = some k → v5.ownBlock = some k) := fun k hk => hvv.out k (HV6.out k hk)
          have HOL' : Hid ((out ++ [y]).length = k + 1) := by show _ = _; rw [List.length_append, HOL.out]; rfl
          have hol' : (out ++ [y]).length ≤ 1000000 := by rw [HOL'.out]; omega
          clear g2
          go_wp2_with fail
          exact ⟨⟨k + 1, p1 + 16, out ++ [y], by omega, by go_num, hol', HOL', HNX, g1, HBT', HVV', HBB⟩, by (simp [intOf]) <;> omega⟩
        · obtain ⟨e1, e2⟩ := takeD_none (n := 16) hlen
          have HG : Hid (getOut (left l p1) 16 = (0, 0, false)) := e2
          have HN : Hid (R = ([], 2)) := by
            have h1 : TC = none := by
              rw [ht.out, ek, coefsT, e1]
              rfl
            show _ = _
            rw [HR3.out, h1]
            rfl
          clear e1 e2 hlen
          go_wp2_with (go_at_call 61; refine (rget_all' wr _ l p1 16 hbt.out _ HG.out).mono ?_; rintro e w6 ⟨v6, rfl, hb6, hv6, m6, rfl⟩; clear hb6 hv6)
          go_ret2
          exact Gave.none HN.out (below_drewN HBW.out m6)
      · have e : k = o := by omega
        have HTS : Hid (TC = some (out, left l p1)) := by
          show _ = _
          rw [ht.out, e, Nat.sub_self]
          simp [coefsT]
        obtain ⟨ca, cc, hu11, hcn, -, -⟩ := hoo.out.ns
        subst hu11
        have HCN := hid_of hcn.at_
        obtain ⟨T2, hT2⟩ : ∃ T2, T2 = resT m (left l p1) := ⟨_, rfl⟩
        have HT2 := hid_of hT2
        have HR4 : Hid (R = outOf ((T2.bind fun q => if (lrestOut xs q.1 out).2 = 0 then some ((lrestOut xs q.1 out).1, q.2) else none).bind fun y => if noOnes y.2 = true then some y.1 else none)) := by
          show _ = _
          rw [HR3.out, HTS.out, hT2]
          rfl
        have HXW : Hid (Ns wr xa xc xs) := HXN.out.mono hb.out
        have hout : out.length ≤ 12 := by rw [HOL.out]; omega
        subst e
        clear hT2 hcn hoo ht hk hkn
        go_wp2_with fail
        refine (rtakeres_any wr _ l p1 m hbt.out (by omega) T2 HT2.out).mono ?_
        intro e w6 hg
        cases hTT : T2 with
        | none =>
          rw [hTT] at hg
          have HN : Hid (R = ([], 2)) := by show _ = _; rw [HR4.out, hTT]; rfl
          obtain ⟨x6, v6, rfl, hb6⟩ := hg
          have HB6 : Hid (Below w.heap.size w w6) := HBW.out.trans (hb6.mono hsw)
          clear hb6 hTT
          go_wp2_with fail
          go_ret2
          exact Gave.none HN.out HB6.out
        | some q =>
          obtain ⟨zs, r2⟩ := q
          rw [hTT] at hg
          obtain ⟨x6, v6, p2, rfl, ho6, hbt6, hr2, -, hb6⟩ := hg
          simp only at ho6 hr2
          obtain ⟨hi6, hl6⟩ := resT_i64 (HT2.out.symm.trans hTT)
          simp only at hi6 hl6
          obtain ⟨za, zc, rfl, hzn, -, -⟩ := ho6.ns
          have HZN := hid_of hzn.at_
          have HI6 := hid_of hi6
          have hl64 : zs.length ≤ 64 := by omega
          have HXN6 : Hid (Ns w6 xa xc xs) := HXW.out.mono hb6
          have HCN6 : Hid (IntsAt w6 ca out) := HCN.out.mono hb6
          have HB6 : Hid (Below w.heap.size w w6) := HBW.out.trans (hb6.mono hsw)
          have hs6 : w.heap.size ≤ w6.heap.size := HB6.out.size
          have HBT6 := hid_of hbt6
          have hxl12 : xs.length ≤ 12 := by rw [HXL.out]; exact ho12
          obtain ⟨⟨Y, k2⟩, hRY⟩ : ∃ RY, RY = lrestOut xs zs out := ⟨_, rfl⟩
          have HRY := hid_of hRY
          have HR5' : Hid (R = outOf ((if k2 = 0 then some (Y, left l p2) else none).bind fun y => if noOnes y.2 = true then some y.1 else none)) := by
            show _ = _
            rw [HR4.out, hTT, hr2]
            simp only [Option.bind_some]
            rw [← hRY]
          have HLP2 := hid_of (left_short l p2 hl)
          clear ho6 hbt6 hr2 hb6 hTT hi6 hl6 hzn hRY
          go_wp2_with fail
          refine (rlrest_any w6 xa za ca xc zc cc xs zs out HXN6.out HZN.out HCN6.out (by omega) (by omega) (by omega) HI6.out _ HRY.out).mono ?_
          rintro e w7 hg
          obtain ⟨a7, c7, rfl, ho7, -, hb7⟩ := hg.ok
          have HO7 := hid_of ho7
          have HB7 : Hid (Below w.heap.size w w7) := HB6.out.trans (hb7.mono hs6)
          have HBT7 : Hid (BtAt w7 v6 (left l p2)) := HBT6.out.below hb7
          clear hg ho7 hb7
          by_cases hk0 : k2 = 0
          · have hkb : (k2 != 0) = false := by simp [hk0]
            have HR5 : Hid (R = outOf (if noOnes (left l p2) = true then some Y else none)) := by show _ = _; rw [HR5'.out, if_pos hk0]; rfl
            clear hk0
            by_cases hno : noOnes (left l p2) = true
            · have HQ : Hid (true = noOnes (left l p2)) := hno.symm
              have HFIN : Hid (R = (Y, 0)) := by show _ = _; rw [HR5.out, if_pos hno]; rfl
              clear hno
              go_wp2_with fail
              refine (rrest_all' w7 v6 _ HBT7.out HLP2.out true HQ.out).mono ?_
              rintro e w9 ⟨rfl, rfl⟩
              go_wp2_with fail
              go_ret2
              rw [HFIN.out]
              exact ⟨_, rfl, (HO7.out.base hs6), HB7.out⟩
            · have hno' : noOnes (left l p2) = false := by simpa using hno
              have HQ : Hid (false = noOnes (left l p2)) := hno'.symm
              have HFIN : Hid (R = ([], 2)) := by show _ = _; rw [HR5.out, if_neg hno]; rfl
              clear hno hno'
              go_wp2_with fail
              refine (rrest_all' w7 v6 _ HBT7.out HLP2.out false HQ.out).mono ?_
              rintro e w9 ⟨rfl, rfl⟩
              go_wp2_with fail
              go_ret2
              exact Gave.none HFIN.out HB7.out
          · have hkb : (k2 != 0) = true := by simp [hk0]
            have HN : Hid (R = ([], 2)) := by show _ = _; rw [HR5'.out, if_neg hk0]; rfl
            clear hk0
            go_wp2_with fail
            go_ret2
            exact Gave.none HN.out HB7.out

/-- Decode of any bytes. -/
theorem rdec_any (w : World) (v : Value) (l : List Nat) (h : SlAt w v l) (hl : l.length ≤ 1000000) (hby : ∀ x ∈ l, x < 256) (R : List Int × Int) (hR : R = decOut 2 l) :
    Calls Tryz.prog 41 #[v] w fun e w' => Gave w w' R e := by
  rw [decOut_of] at hR
  by_cases h8 : 8 ≤ (left l 0).length
  case neg =>
    obtain ⟨e1, e2⟩ := takeD_none (n := 8) h8
    rw [decD_short (.inl e1)] at hR
    subst hR
    exact rdec_short w v l h hl hby _ _ e2 rfl (.inl rfl)
  obtain ⟨K, hK, e1, e2⟩ := takeD_left (l := l) (p := 0) (n := 8) (by decide) h8
  by_cases h16 : 8 ≤ (left l (0 + 8)).length
  case neg =>
    obtain ⟨f1, f2⟩ := takeD_none (n := 8) h16
    rw [decD_short (.inr ⟨K, e1, f1⟩)] at hR
    subst hR
    exact rdec_short w v l h hl hby _ _ e2 rfl (.inr ⟨rfl, by rw [show getOut (left l (0 + 8)) 8 = (0, 0, false) from f2]⟩)
  obtain ⟨n, hn, f1, f2⟩ := takeD_left (l := l) (p := 0 + 8) (n := 8) (by decide) h16
  by_cases hg : badHead K n
  · rw [decD_badhead e1 f1 hg] at hR
    subst hR
    exact rdec_bad w v l h hl hby K n e2 f2 (by omega) (by omega) hg
  rw [decD_at e1 f1 hg] at hR
  unfold badHead at hg
  by_cases h0 : K = 0
  · have e : ordOf K n = 1 := by simp [ordOf, h0]
    rw [e] at hR
    exact rdec_const w v l h hl hby K n e2 f2 h0 (by omega) (by omega) R hR
  by_cases h1 : K = 1
  · have e : ordOf K n = n := by simp [ordOf, h1]
    rw [e] at hR
    exact rdec_verb w v l h hl hby K n e2 f2 h1 (by omega) (by omega) R hR
  by_cases h6 : K ≤ 6
  · have e : ordOf K n = K - 2 := by unfold ordOf; rw [if_neg h0, if_neg h1, if_pos h6]
    rw [e] at hR hg
    exact rdec_fixed w v l h hl hby K n e2 f2 (by omega) h6 (K - 2) rfl (by omega) (by omega) (by omega) R hR
  · have e : ordOf K n = K - 6 := by unfold ordOf; rw [if_neg h0, if_neg h1, if_neg h6]
    rw [e] at hR hg
    exact rdec_lpc w v l h hl hby K n e2 f2 (by omega) (by omega) (K - 6) rfl (by omega) (by omega) (by omega) R hR

end Go.Proofs.YtejgkgnocgplbaaGreat

/- The document's own Summed, Seal. -/
namespace Go.Proofs.YtejgkgnocgplbaaGreat
set_option linter.unusedVariables false
set_option linter.unusedSimpArgs false
open Go.RowKit Dg Cr

theorem lit_one (w : World) (x : Nat) : Bs (w.alloc (.cells #[.int .u8 (x : Int)] 5)) (some ⟨w.heap.size, 0, none⟩) 1 [x] :=
  ⟨SlAt.of_owns (own_new w w.heap.size #[.int .u8 (x : Int)] 1 [x] rfl rfl (by decide) (Nat.le_refl _)), Nat.le_refl _, fun e => by cases e⟩

set_option maxRecDepth 100000 in
set_option maxHeartbeats 4000000 in
theorem rsummed_any (w : World) (a : Option Addr) (cap n : Nat) (l : List Nat) (h : Bs w a cap l) (hl : l.length ≤ 500) (hn : n ≤ 500) (h256 : ∀ x ∈ l, x < 256) (F S : List Nat) (hF : F = l ++ List.replicate (n - l.length) 0) (hS : S = F ++ bytes4 (sumN F)) :
    Calls Tryz.prog 39 #[.slice a l.length cap, .int .i64 (n : Int)] w fun e w' => ∃ g c, e = .returned (.slice (some ⟨g, 0, none⟩) S.length c) ∧ OwnBytes w' w.heap.size (.slice (some ⟨g, 0, none⟩) S.length c) S ∧ Below w.heap.size w w' := by
  have HB := hid_of h
  have H256 := hid_of h256
  have HF := hid_of hF
  have HS := hid_of hS
  clear h h256 hF hS
  go_enter Tryz.func39, Tryz.ntmps39
  go_wp2_with (at_builtin; go_must (refine wpList_append_bytes w rfl _ (.tmp 7) rfl w.heap.size (.slice none 0 0) [] rfl (OwnBytes.nil _ _) a cap l rfl HB.out (by simp; omega) (Nat.le_refl _) ?_))
  intro v1 w1 h1 h2 h3
  have HO1 : Hid (OwnBytes w1 w.heap.size v1 l) := by simpa using h1
  have HB1 : Hid (Below w.heap.size w w1) := (h2.out.below_of (Below.refl _ _) (fun k hk => by cases hk) (Nat.le_refl _))
  clear h1 h2 h3 HB
  go_wp2_with fail
  go_loopw [5] (fun v wr => ∃ (T : List Nat) (ta : Option Addr) (tc k : Nat), v = .slice ta T.length tc ∧ T.length ≤ 1000 ∧ Hid (T = l ++ List.replicate k 0) ∧ Hid (k = 0 ∨ l.length + k ≤ n) ∧ Hid (OwnBytes wr w.heap.size (.slice ta T.length tc) T) ∧ Hid (Below w.heap.size w wr)) (fun v _ => n - lenV v)
  case atStart =>
    obtain ⟨ta, tc, rfl, -⟩ := SlAt.of_owns HO1.out
    exact ⟨l, ta, tc, 0, rfl, by omega, by show _ = _; simp, .inl rfl, HO1.out, HB1.out⟩
  case round =>
    obtain ⟨T, ta, tc, k, rfl, hT, hTE, hk, ho, hb⟩ := hrel
    have hsz : w.heap.size ≤ wr.heap.size := hb.out.size
    by_cases hTn : T.length < n
    · have HOA : Hid (OwnBytes (wr.alloc (.cells #[.int .u8 ((0 : Nat) : Int)] 5)) w.heap.size (.slice ta T.length tc) T) := World.ownsRow.alloc ho.out _
      have HBA : Hid (Below w.heap.size w (wr.alloc (.cells #[.int .u8 ((0 : Nat) : Int)] 5))) := hb.out.alloc hsz _
      have HLO := hid_of (lit_one wr 0)
      have hsa : w.heap.size ≤ (wr.alloc (.cells #[.int .u8 ((0 : Nat) : Int)] 5)).heap.size := HBA.out.size
      go_wp2_with (at_builtin; go_must (refine wpList_append_bytes (wr.alloc (.cells #[.int .u8 ((0 : Nat) : Int)] 5)) rfl (.tmp 13) (.tmp 14) rfl w.heap.size _ T rfl HOA.out (some ⟨wr.heap.size, 0, none⟩) 1 [0] rfl HLO.out (by simp; omega) hsa ?_))
      intro v' w' g1 g2 g3
      obtain ⟨T', hT'⟩ : ∃ T', T' = T ++ [0] := ⟨_, rfl⟩
      rw [← hT'] at g1
      obtain ⟨ta', tc', rfl, -⟩ := SlAt.of_owns g1.out
      have HLT : Hid (∀ k, (Value.slice ta T.length tc).ownBlock = some k → w.heap.size ≤ k) := fun k hk => (World.ownsRow.lt ho.out k hk).1
      have HB' : Hid (Below w.heap.size w w') := g2.out.below_of HBA.out (fun k hk => HLT.out k hk) hsa
      have hTl : T'.length = T.length + 1 := by rw [hT']; simp
      have hl0 : T.length = l.length + k := by rw [hTE.out]; simp
      have HTE : Hid (T' = l ++ List.replicate (k + 1) 0) := by show _ = _; rw [hT', hTE.out, List.append_assoc, List.replicate_succ']
      have HK : Hid (k + 1 = 0 ∨ l.length + (k + 1) ≤ n) := .inr (by omega)
      have hT1 : T'.length ≤ 1000 := by omega
      have HTL := hid_of hTl
      clear g2 g3 hT' hTl hl0
      go_wp2_with fail
      refine ⟨⟨T', ta', tc', k + 1, rfl, hT1, HTE, HK, g1, HB'⟩, ?_⟩
      show n - T'.length < n - T.length
      have := HTL.out
      omega
    · have HTF : Hid (T = F) := by
        show _ = _
        have h1 := hk.out
        have hl0 : T.length = l.length + k := by rw [hTE.out]; simp
        have e : k = n - l.length := by omega
        rw [HF.out, ← e]
        exact hTE.out
      have HT256 : Hid (∀ x ∈ T, x < 256) := by
        intro x hx
        rw [hTE.out] at hx
        rcases List.mem_append.1 hx with h | h
        · exact H256.out x h
        · have := List.eq_of_mem_replicate h; omega
      obtain ⟨X, hX⟩ : ∃ X, X = (crc ones T).toNat := ⟨_, rfl⟩
      have HX := hid_of hX
      have hX32 : X < 4294967296 := by rw [hX]; exact BitVec.isLt _
      have HSS : Hid (S = T ++ bytes4 X) := by show _ = _; rw [HS.out, ← HTF.out, hX]; rfl
      have HSL : Hid (S.length = T.length + 4) := by show _ = _; rw [HSS.out]; simp
      clear hX
      go_wp2_with fail
      refine (rsum_at wr _ T X HX.out (SlAt.of_owns ho.out) (by omega) HT256.out).mono ?_
      rintro e w3 ⟨rfl, rfl⟩
      go_wp2_with (at_builtin; go_must (refine wpList_append_four _ rfl (.tmp 18) (.tmp 30) rfl w.heap.size _ T X rfl ho.out rfl hX32 (by omega) hsz ?_))
      intro g cp w4 g1 g2 g3
      have HLT : Hid (∀ k, (Value.slice ta T.length tc).ownBlock = some k → w.heap.size ≤ k) := fun k hk => (World.ownsRow.lt ho.out k hk).1
      have HB' : Hid (Below w.heap.size w w4) := g2.out.below_of hb.out (fun k hk => HLT.out k hk) hsz
      have HO' : Hid (OwnBytes w4 w.heap.size (.slice (some ⟨g, 0, none⟩) S.length cp) S) := by
        show World.ownsRow _ _ _ _ _ _ _
        rw [HSL.out, HSS.out]
        exact g1.out
      clear g1 g2 g3
      go_wp2_with fail
      go_ret
      exact ⟨g, cp, by rw [HSL.out]; rfl, HO'.out, HB'.out⟩

set_option maxHeartbeats 1000000 in
theorem rseal_any (w : World) (a : Option Addr) (cap : Nat) (l : List Nat) (h : Bs w a cap l) (hl : l.length ≤ 100000) (h256 : ∀ x ∈ l, x < 256) (R : List Nat × Int) (hR : R = sealOut l) :
    Calls Tryz.prog 17 #[.slice a l.length cap] w fun e w' => GaveN w w' R e := by
  have HB := hid_of h
  have H256 := hid_of h256
  unfold sealOut at hR
  clear h h256
  by_cases h124 : 124 < l.length
  · rw [if_pos h124] at hR
    have HR := hid_of hR
    clear hR
    go_enter Tryz.func17, Tryz.ntmps17
    go_wp2_with fail
    go_ret2
    rw [HR.out]
    exact ⟨_, rfl, OwnBytes.nil _ _, Below.refl _ _⟩
  · rw [if_neg h124] at hR
    obtain ⟨S, hS⟩ : ∃ S, S = sealL l := ⟨_, rfl⟩
    rw [← hS] at hR
    have HR := hid_of hR
    have HS : Hid (S = fillF l ++ bytes4 (sumN (fillF l))) := hS
    clear hR hS
    go_enter Tryz.func17, Tryz.ntmps17
    go_wp2_with fail
    refine (rsummed_any w a cap 124 l HB.out (by omega) (by decide) H256.out (fillF l) S rfl HS.out).mono ?_
    rintro e w1 ⟨g, c, rfl, h1, hb1⟩
    have H1 := hid_of h1
    have HB1 := hid_of hb1
    clear h1 hb1
    go_wp2_with fail
    go_ret2
    rw [HR.out]
    exact ⟨_, rfl, H1.out, HB1.out⟩

end Go.Proofs.YtejgkgnocgplbaaGreat
