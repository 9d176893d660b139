/- DiskKeeps over the bundle. -/
import Derived.Test.YtjmeneddhalodaaPart05
import Derived.Test.YtjmeneddhalodaaPart06
namespace Go.Proofs.Ytjmeneddhalodaa
set_option linter.unusedVariables false
set_option linter.unusedSimpArgs false
open Go.RowKit Dg

theorem lastK_congr (W : List (Nat × List Nat)) (f g : Nat → Bool) (k : Nat) : ∀ n, (∀ j, j < n → f j = g j) → lastK W f k n = lastK W g k n
  | 0, _ => rfl
  | n + 1, h => by
    unfold lastK
    rw [h n (Nat.lt_succ_self n), lastK_congr W f g k n (fun j hj => h j (by omega))]
/-- What is known of a disk of four sectors: the first bytes of what is read. -/
structure LvI (s : Sk) (c : Nat) (want : List Nat) : Prop where
  live : Live s 4 c
  wl : want.length = 4
  hn : ∀ k x, k < 4 → want[k]? = some x → (s.now k)[0]? = some x
theorem LvI.first : LvI (newS 4) 0 [0, 0, 0, 0] := by
  refine ⟨Live.first (by decide) (by decide), rfl, fun k x hk hx => ?_⟩
  have e : x = 0 := by have := List.mem_of_getElem? hx; simpa using this
  rw [e]; exact newS_now 4 k hk
theorem LvI.write {s : Sk} {c : Nat} {want : List Nat} (h : LvI s c want) {k y : Nat} (hk : k < 4) (hy : y < 256) : (0 : Int) = s.writeR (k : Int) (fullL [y]) ∧ LvI (s.writeS (k : Int) (fullL [y])) (c + 1) (want.set k y) := by
  obtain ⟨h1, h2, h3, h4, h5⟩ := h.live.write hk (length_fullL [y]) (fullL_lt (fun x hx => by rw [List.mem_singleton.1 hx]; exact hy))
  refine ⟨h1, ⟨h2, by rw [List.length_set]; exact h.wl, fun j x hj hx => ?_⟩⟩
  rw [h5]
  rw [List.getElem?_set] at hx
  by_cases e : k = j
  · rw [if_pos e] at hx ⊢
    rw [if_pos (by rw [h.wl]; exact hk)] at hx
    cases hx
    exact fullL_one y
  · rw [if_neg e] at hx ⊢
    exact h.hn j x hj hx
theorem LvI.flush {s : Sk} {c : Nat} {want : List Nat} (h : LvI s c want) : (0 : Int) = s.flushR ∧ LvI s.flushS (c + 1) want ∧ s.flushS.W = [] := by
  obtain ⟨h1, h2, h3, h4⟩ := h.live.flush
  exact ⟨h1, ⟨h2, h.wl, fun j x hj hx => by rw [h4 j hj]; exact h.hn j x hj hx⟩, h3⟩
theorem LvI.read {s : Sk} {c : Nat} {want : List Nat} (h : LvI s c want) {k : Nat} (hk : k < 4) : (s.now k, (0 : Int)) = s.readR (k : Int) ∧ LvI (s.readS (k : Int)) (c + 1) want ∧ (s.readS (k : Int)).W = s.W := by
  obtain ⟨h1, h2, h3, h4⟩ := h.live.read hk
  exact ⟨h1, ⟨h2, h.wl, fun j x hj hx => by rw [now_same h3 h4]; exact h.hn j x hj hx⟩, h4⟩
/-- And of what a crash would keep. -/
structure KeI (s : Sk) (c i : Nat) (now want : List Nat) (K : List Bool) : Prop where
  lv : LvI s c now
  wl : want.length = 4
  wn : s.W.length = i
  hk : ∀ k x, k < 4 → want[k]? = some x → ((lastK s.W (fun j => K.getD j false) k s.W.length).getD (sec s.B k))[0]? = some x
theorem KeI.first {s : Sk} {c : Nat} {want : List Nat} (h : LvI s c want) (hW : s.W = []) (K : List Bool) : KeI s c 0 want want K := ⟨h, h.wl, by rw [hW]; rfl, fun k x hk hx => by
  have e := h.hn k x hk hx
  unfold Sk.now at e
  rw [hW] at e ⊢
  exact e⟩
theorem KeI.writeN {s : Sk} {c i : Nat} {now want : List Nat} {K : List Bool} (h : KeI s c i now want K) {k y : Nat} (hk : k < 4) (hy : y < 256) (hb : K.getD i false = false) : KeI (s.writeS (k : Int) (fullL [y])) (c + 1) (i + 1) (now.set k y) want K := by
  obtain ⟨h1, h2, h3, h4, h5⟩ := h.lv.live.write hk (length_fullL [y]) (fullL_lt (fun x hx => by rw [List.mem_singleton.1 hx]; exact hy))
  have el : (s.W ++ [(k, fullL [y])]).length = s.W.length + 1 := by simp
  refine ⟨(h.lv.write hk hy).2, h.wl, by rw [h4, el, h.wn], fun j x hj hx => ?_⟩
  rw [h3, h4, el, lastK_push, if_neg (fun e => by have e1 := e.1; rw [h.wn, hb] at e1; exact Bool.noConfusion e1)]
  exact h.hk j x hj hx
theorem KeI.writeY {s : Sk} {c i : Nat} {now want : List Nat} {K : List Bool} (h : KeI s c i now want K) {k y : Nat} (hk : k < 4) (hy : y < 256) (hb : K.getD i false = true) : KeI (s.writeS (k : Int) (fullL [y])) (c + 1) (i + 1) (now.set k y) (want.set k y) K := by
  obtain ⟨h1, h2, h3, h4, h5⟩ := h.lv.live.write hk (length_fullL [y]) (fullL_lt (fun x hx => by rw [List.mem_singleton.1 hx]; exact hy))
  have el : (s.W ++ [(k, fullL [y])]).length = s.W.length + 1 := by simp
  refine ⟨(h.lv.write hk hy).2, by rw [List.length_set]; exact h.wl, by rw [h4, el, h.wn], fun j x hj hx => ?_⟩
  rw [h3, h4, el, lastK_push]
  rw [List.getElem?_set] at hx
  by_cases e : k = j
  · rw [if_pos e, if_pos (by rw [h.wl]; exact hk)] at hx
    cases hx
    rw [if_pos ⟨by rw [h.wn]; exact hb, e⟩]
    exact fullL_one y
  · rw [if_neg e] at hx
    rw [if_neg (fun f => e f.2)]
    exact h.hk j x hj hx
theorem KeI.read {s : Sk} {c i : Nat} {now want : List Nat} {K : List Bool} (h : KeI s c i now want K) {k : Nat} (hk : k < 4) : (s.now k, (0 : Int)) = s.readR (k : Int) ∧ KeI (s.readS (k : Int)) (c + 1) i now want K := by
  obtain ⟨h1, h2, h3, h4⟩ := h.lv.live.read hk
  exact ⟨h1, ⟨(h.lv.read hk).2.1, h.wl, by rw [h4]; exact h.wn, fun j x hj hx => by rw [h3, h4]; exact h.hk j x hj hx⟩⟩
theorem KeI.crash {s : Sk} {c i : Nat} {now want : List Nat} {K : List Bool} (h : KeI s c i now want K) (hi : i ≤ 10) (K2 : List Bool) (hK2 : K2 = K.take 10) : LvI (s.crashS K2) c want ∧ (s.crashS K2).W = [] := by
  obtain ⟨a, b⟩ := h.lv.live.crash K2
  refine ⟨⟨a, h.wl, fun k x hk hx => ?_⟩, b⟩
  rw [now_crash h.lv.live.fine K2 k (by rw [h.lv.live.bl]; omega), lastK_congr s.W (fun j => K2.getD j false) (fun j => K.getD j false) k s.W.length (fun j hj => by
    show K2.getD j false = K.getD j false
    rw [hK2, List.getD_eq_getElem?_getD, List.getD_eq_getElem?_getD, List.getElem?_take, if_pos (by have := h.wn; omega)])]
  exact h.hk k x hk hx
set_option maxRecDepth 100000 in
theorem Try.sizeA4 : (Try.prog.info? 61).map (·.size) = some 4 := by kernel_rfl
set_option maxRecDepth 100000 in
theorem Try.infoA4 : (Try.prog.info? 61).map (fun i => (i.zero, i.size, i.bytes)) = some (some (.agg #[.int .u8 0, .int .u8 0, .int .u8 0, .int .u8 0]), 4, 4) := by kernel_rfl
theorem zeroA4 (w : World) : (zeroValue 61).run Try.prog w = .ok (.agg #[.int .u8 0, .int .u8 0, .int .u8 0, .int .u8 0]) w := by
  obtain ⟨i0, hi, hz0, hz1, hz2⟩ := info_parts Try.infoA4
  simp [zeroValue, typeInfo, hi, hz0]
theorem wpList_alloc_a4 {ops : Array Oper} {rest : List Oper} {o : Oper} {a : Act} {w : World} {Q : Exit → Act → World → Prop} (hg : o.guard = none) (ho : o.op = .alloc 61)
    (h : wpList Try.prog ops Q rest (a.put o.dst (.pointer (some ⟨w.heap.size, 0, none⟩))) (w.alloc (.cells #[.int .u8 0, .int .u8 0, .int .u8 0, .int .u8 0] 61))) : wpList Try.prog ops Q (o :: rest) a w := by
  refine wpList_plain hg fun K hK => ?_
  unfold Oper.wp execOp
  simp only [ho, Sem.run_bind, Instr.alloc, zeroA4, newVar, newRow, run_newObj_alloc, Sem.run_pure, Result.andThen_ok]
  exact hK _ _ h

set_option maxRecDepth 100000 in
set_option maxHeartbeats 32000000 in
theorem dkeeps_any {Di : DiP} (C : Dsk Di) (CR : DRead Di) (CF : DFlush Di) (W : World) (a1 : Option Addr) (len1 cap1 : Nat) (z1 : List Int) (a2 : Option Addr) (len2 cap2 : Nat) (z2 : List Int) (a3 : Option Addr) (len3 cap3 : Nat) (K : List Bool) (hr1 : IsRow .i64 W a1 len1 cap1 z1) (hr2 : IsRow .i64 W a2 len2 cap2 z2) (hKl : K.length = len3) (hKb : BlAt W a3 K) (hc3 : len3 ≤ cap3) (hm3 : cap3 ≤ maxLen) :
    Calls Try.prog 8 #[.slice a1 len1 cap1, .slice a2 len2 cap2, .slice a3 len3 cap3] W fun e W' => e = .returned (.bool true) ∧ Below W.heap.size W W' := by
  obtain ⟨i0, hi, hz0, hz1, hz2⟩ := info_parts Try.info5
  obtain ⟨ls, hll, hlI, hat, hle, hmx, hnone, hblk⟩ := hr1.ints
  obtain ⟨ls2, hll2, hlI2, hat2, hle2, hmx2, hnone2, hblk2⟩ := hr2.ints
  have HLS := hid_of hat
  have HLL := hid_of hll
  have HLI : Hid (∀ x ∈ ls, I64 x) := hlI
  have HLB : Hid (∀ x, a1 = some x → 0 < len1 → x.block < W.heap.size) := hblk
  have HLS2 := hid_of hat2
  have HLL2 := hid_of hll2
  have HLI2 : Hid (∀ x ∈ ls2, I64 x) := hlI2
  have HLB2 : Hid (∀ x, a2 = some x → 0 < len2 → x.block < W.heap.size) := hblk2
  have HKL := hid_of hKl
  have HKB := hid_of hKb
  have HKX : Hid (K ≠ [] → ∀ y, a3 = some y → y.block < W.heap.size) := fun hne y hy => hKb.lt hne y hy
  have hlen1 : len1 ≤ 9223372036854775807 := by unfold maxLen at hmx; omega
  have hlen2 : len2 ≤ 9223372036854775807 := by unfold maxLen at hmx2; omega
  have hlen3 : len3 ≤ 9223372036854775807 := by unfold maxLen at hm3; omega
  obtain ⟨ml, hml⟩ : ∃ ml, ml = min len3 10 := ⟨_, rfl⟩
  obtain ⟨K2, hK2⟩ : ∃ K2, K2 = K.take 10 := ⟨_, rfl⟩
  have HK2E := hid_of hK2
  have HMLE := hid_of hml
  have HML : Hid (ml ≤ 1000000) := by show _ ≤ _; omega
  have HK2L : Hid (K2.length = ml) := by show _ = _; rw [hK2, hml, List.length_take, hKl]; omega
  have HK2B : Hid (BlAt W a3 K2) := by rw [hK2]; exact hKb.take 10
  have HK2X : Hid (K2 ≠ [] → ∀ y, a3 = some y → y.block < W.heap.size) := fun hne y hy => hKb.lt (fun e => hne (by rw [hK2, e]; rfl)) y hy
  clear hr1 hr2 hat hll hlI hle hmx hnone hblk hat2 hll2 hlI2 hle2 hmx2 hnone2 hblk2 hKl hKb hm3 hml hK2
  go_enter Try.func8, Try.ntmps8
  go_wp2_with fail
  refine (one_new C W 4 (by decide) (by decide)).mono ?_
  rintro e w1 ⟨d, rfl, ho1, hb1⟩
  have HO1 := hid_of ho1
  have HK1 : Hid (Kept (fun k => W.heap.size ≤ k) W w1) := Below.kept0 hb1
  clear ho1 hb1
  obtain ⟨w3, hw3⟩ : ∃ w3, w3 = w1.alloc (.cells #[.int .u8 0, .int .u8 0, .int .u8 0, .int .u8 0] 61) := ⟨_, rfl⟩
  obtain ⟨gw, hgw⟩ : ∃ gw, gw = w1.heap.size := ⟨_, rfl⟩
  have hk3 : Kept (fun _ => False) w1 w3 := by rw [hw3]; exact Kept.alloc _ _ _
  have hs3 : w3.heap.size = w1.heap.size + 1 := by rw [hw3]; simp
  have HAW3 : Hid (ArrIs 61 w3 gw [0, 0, 0, 0]) := by
    show ArrIs _ _ _ _
    rw [hw3, hgw]
    exact heap_alloc_new w1 _
  have HO3 : Hid (One Di (fun k => k < W.heap.size ∨ k = gw) w3 d (newS 4)) := HO1.out.keep C (hk3.mono (fun _ _ h => h.elim)) (fun k e => by
    rcases e with e | e
    · exact .inl e
    · exact .inr ⟨by omega, by omega⟩)
  have HK3 : Hid (Kept (fun k => W.heap.size ≤ k) W w3) := HK1.out.trans (hk3.mono (fun _ _ h => h.elim))
  have hgwW : W.heap.size ≤ gw := by have := HK1.out.size; omega
  have HI3 : Hid (LvI (newS 4) 0 [0, 0, 0, 0]) := LvI.first
  clear hk3 hs3 HO1 HK1
  go_wp2_with fail
  rw [← hw3, ← hgw]
  clear hw3 hgw
  go_loopw [10] (fun v ws => ∃ (i c : Nat) (s : Sk) (want : List Nat), i ≤ len1 ∧ i ≤ 8 ∧ c ≤ i ∧ v = .int .i64 (i : Int) ∧ Hid (LvI s c want) ∧ Hid (One Di (fun k => k < W.heap.size ∨ k = gw) ws d s) ∧ Hid (Kept (fun k => W.heap.size ≤ k) W ws) ∧ Hid (ArrIs 61 ws gw want)) (fun v _ => 8 - (intOf v).toNat)
  case atStart => exact ⟨0, 0, _, _, Nat.zero_le _, by decide, by decide, rfl, HI3, HO3, HK3, HAW3⟩
  case round =>
    obtain ⟨i, c, s, want, hil, hi8, hc2, rfl, hI, hO, hK, hAW⟩ := hrel
    have hout : (i < len1 ∧ i < 8) ∨ ¬ i < len1 ∨ (i < len1 ∧ ¬ i < 8) := by omega
    rcases hout with ⟨hil', hi8'⟩ | hout
    · have hb8 : decide ((i : Int) < 8) = true := decide_eq_true (by omega)
      obtain ⟨x, hx⟩ : ∃ x, ls[i]? = some x := ⟨_, List.getElem?_eq_getElem (by rw [HLL.out]; exact hil')⟩
      obtain ⟨bl, ol, rfl, hcx⟩ := (HLS.out.kept hK.out (fun y hy e => by have := HLB.out y hy (by omega); omega)) i x hx
      obtain ⟨hx1, hx2⟩ := HLI.out x (List.mem_of_getElem? hx)
      obtain ⟨k5, hk5e⟩ : ∃ k5 : Nat, x % 4 = (k5 : Int) := ⟨(x % 4).toNat, by omega⟩
      have hk5 : k5 < 4 := by omega
      have HWX : Hid (∀ w : World, Calls Try.prog 9 #[.int .i64 x, .int .i64 4] w fun e w' => e = .returned (.int .i64 (k5 : Int)) ∧ w = w') := fun w => by rw [← hk5e]; exact within_any x 4 w hx1 hx2 (by decide) (by decide)
      obtain ⟨y, hy⟩ : ∃ y, y = i + 1 := ⟨_, rfl⟩
      have hyi : 1 + (i : Int) = (y : Int) := by omega
      have hyi2 : (i : Int) + 1 = (y : Int) := by omega
      have hy256 : y < 256 := by omega
      obtain ⟨hwr, hi6⟩ := hI.out.write hk5 hy256
      have HWR := hid_of hwr
      have HI6 := hid_of hi6
      have HLV := hid_of hI.out.live
      have HWLn := hid_of hI.out.wl
      clear hx hx1 hx2 hk5e hy hwr hi6 hI
      go_wp2_with fail
      refine (HWX.out _).mono ?_
      rintro e w6 ⟨rfl, rfl⟩
      have HL3' : Hid (Bs (wr.alloc (.cells #[.int .u8 (y : Int)] 5)) (some ⟨wr.heap.size, 0, none⟩) 1 [y]) := lit_one wr y
      have HO3' : Hid (One Di (fun k => k < W.heap.size ∨ k = gw) (wr.alloc (.cells #[.int .u8 (y : Int)] 5)) d s) := hO.out.keep C (Kept.alloc _ _ _) (fun k e => .inl e)
      have HF3 := hid_of (one_full C HO3'.out (some ⟨wr.heap.size, 0, none⟩) 1 1 [y] rfl HL3'.out)
      have HK3' : Hid (Kept (fun k => W.heap.size ≤ k) W (wr.alloc (.cells #[.int .u8 (y : Int)] 5))) := hK.out.trans (Kept.alloc _ _ _)
      have HAW3 := hid_of (hAW.out.kept (Kept.alloc (fun _ => False) _ (.cells #[.int .u8 (y : Int)] 5)) (fun h => h))
      go_wp2_with fail
      refine HF3.out.mono ?_
      rintro e w7 ⟨g7, rfl, hb7, -, ho7, hbl7, hg7, hg7'⟩
      have HK7 : Hid (Kept (fun k => W.heap.size ≤ k) W w7) := HK3'.out.trans ((Below.kept0 hbl7).mono (fun k _ e => Nat.le_trans HK3'.out.size e))
      have HAW7 := hid_of (HAW3.out.kept (F := fun _ => False) (Kept.of_below hbl7) (fun h => h))
      have HCW := hid_of (one_write C ho7 (k5 : Int) ⟨by omega, by omega⟩ g7 128 128 (fullL [y]) (length_fullL [y]) hb7 (fullL_lt (fun x hx => by rw [List.mem_singleton.1 hx]; exact hy256)) (by decide) (.inr rfl) (by have := HLV.out.wr; omega) (by have := HLV.out.wl; omega) 0 HWR.out _ rfl)
      clear hb7 ho7 hbl7 HF3 HL3' HO3' HAW3 HK3' hg7 hg7'
      go_wp2_with fail
      refine HCW.out.mono ?_
      rintro e w8 ⟨rfl, ho8, hk8⟩
      have HO8 : Hid (One Di (fun k => k < W.heap.size ∨ k = gw) w8 d (s.writeS (k5 : Int) (fullL [y]))) := ho8.less (fun k e => .inl e)
      have HK8 : Hid (Kept (fun k => W.heap.size ≤ k) W w8) := HK7.out.trans (hk8.mono (fun k _ e => Nat.le_of_not_lt (fun h => e (.inl (.inl h)))))
      have HAW8 := hid_of (HAW7.out.kept hk8 (fun f => f (.inl (.inr rfl))))
      clear ho8 hk8 HCW HAW7 HK7
      obtain ⟨u, hu⟩ : ∃ u, want[k5]? = some u := ⟨_, List.getElem?_eq_getElem (by rw [HWLn.out]; exact hk5)⟩
      obtain ⟨cn1, cn2⟩ := HAW8.out.cell hu
      obtain ⟨w9, hw9⟩ : ∃ w9, w9 = w8.setCell ⟨gw, k5, none⟩ (.int .u8 (y : Int)) := ⟨_, rfl⟩
      have hk9 : Kept (fun k => k = gw) w8 w9 := by rw [hw9]; exact Kept.setCell _ _ _ rfl
      have HAW9 : Hid (ArrIs 61 w9 gw (want.set k5 y)) := by show ArrIs _ _ _ _; rw [hw9]; exact HAW8.out.set k5 y
      have HO9 : Hid (One Di (fun k => k < W.heap.size ∨ k = gw) w9 d (s.writeS (k5 : Int) (fullL [y]))) := HO8.out.keep C (hk9.mono (fun k _ e => .inl (.inr e))) (fun k e => .inl e)
      have HK9 : Hid (Kept (fun k => W.heap.size ≤ k) W w9) := HK8.out.trans (hk9.mono (fun k _ e => by omega))
      clear hu hk9
      go_wp2_with fail
      rw [← hw9]
      refine ⟨?_, by (simp [intOf]) <;> omega⟩
      first
        | exact ⟨i + 1, c + 1, _, _, by omega, by omega, by omega, by go_num, HI6, HO9, HK9, HAW9⟩
        | ((repeat apply Exists.intro); refine ⟨?_, rfl⟩; exact ⟨i + 1, c + 1, _, _, by omega, by omega, by omega, by go_num, HI6, HO9, HK9, HAW9⟩)
    · have hex : decide (i < len1) = false ∨ (i < len1 ∧ decide ((i : Int) < 8) = false) := hout.elim (fun h => .inl (decide_eq_false h)) (fun h => .inr ⟨h.1, decide_eq_false (by omega)⟩)
      obtain ⟨hf1, hf2, hf3⟩ := hI.out.flush
      have HFR := hid_of hf1
      have HWN := hid_of hf3
      have HLV0 := hid_of hI.out.live
      have HNL := hid_of hI.out.wl
      have HKE0 := hid_of (KeI.first hf2 hf3 K)
      obtain ⟨s5, hs5⟩ : ∃ s5, s5 = s.flushS := ⟨_, rfl⟩
      rw [← hs5] at HKE0
      have HS5 := hid_of hs5
      obtain ⟨Cn, hCn⟩ : ∃ Cn, Cn = (u8s want).toArray := ⟨_, rfl⟩
      have HCN := hid_of hCn
      clear hf1 hf2 hf3 hs5 hCn hI
      rcases hex with hbl | ⟨hil', hb8⟩
      all_goals
        go_wp2_with fail
        refine (one_flush C CF hO.out (by have := HLV0.out.fl; omega) (by have := HLV0.out.wl; omega) 0 HFR.out s5 HS5.out).mono ?_
        rintro e w2 ⟨rfl, ho2, hk2⟩
        have HO2 := hid_of ho2
        have HK2 : Hid (Kept (fun k => W.heap.size ≤ k) W w2) := hK.out.trans (hk2.mono (fun k _ e => Nat.le_of_not_lt (fun h => e (.inl h))))
        have HAW2 := hid_of (hAW.out.kept hk2 (fun f => f (.inr rfl)))
        clear ho2 hk2
        have HNEW : Hid ((w2.alloc (.cells #[.int .u8 0, .int .u8 0, .int .u8 0, .int .u8 0] 61)).heap[w2.heap.size]? = some (.cells (u8s [0, 0, 0, 0]).toArray 61 (0, 0))) := heap_alloc_new w2 _
        go_upto_region 14 with fail
        go_wp2_with (refine wpList_load_arr rfl 61 (.tmp 9) rfl gw rfl want HAW2.out _ Try.underlying61 rfl 4 HNL.out Try.sizeA4 Cn HCN.out ?_; refine wpList_alloc_a4 rfl rfl ?_; refine wpList_store_arr rfl 61 (.tmp 12) (.tmp 63) rfl w2.heap.size Cn rfl rfl want [0, 0, 0, 0] HCN.out HNEW.out 4 HNL.out rfl Try.sizeA4 ?_)
        intro w5 hA5 hK5'
        obtain ⟨gn, hgn⟩ : ∃ gn, gn = w2.heap.size := ⟨_, rfl⟩
        rw [← hgn] at hA5 hK5' ⊢
        have hgnW : W.heap.size ≤ gn := by have := HK2.out.size; omega
        have hgne : ¬ gw = gn := by have := HAW2.out.lt; omega
        have hk5' : Kept (fun k => k = gn) w2 w5 := (Kept.alloc _ _ _).trans (hK5'.out.mono (fun k _ e => e))
        have HK5 : Hid (Kept (fun k => W.heap.size ≤ k) W w5) := HK2.out.trans (hk5'.mono (fun k _ e => by omega))
        have HO5 : Hid (One Di (fun k => k < W.heap.size ∨ k = gw ∨ k = gn) w5 d s5) := HO2.out.keep C (hk5'.mono (fun k _ e => .inr (by omega))) (fun k e => by
          rcases e with e | e | e
          · exact .inl (.inl e)
          · exact .inl (.inr e)
          · exact .inr ⟨by omega, by have := hA5.out.lt; omega⟩)
        have HAW5 := hid_of (HAW2.out.kept hk5' hgne)
        clear hK5' HAW2 HK2 HO2 HNEW hk5' hgn
        go_wp2_with fail
        go_loopw [13] (fun v ws => ∃ (j c' : Nat) (t : Sk) (now want' : List Nat), j ≤ len2 ∧ j ≤ 10 ∧ c' ≤ 9 + j ∧ v = .int .i64 (j : Int) ∧ Hid (KeI t c' j now want' K) ∧ Hid (One Di (fun k => k < W.heap.size ∨ k = gw ∨ k = gn) ws d t) ∧ Hid (Kept (fun k => W.heap.size ≤ k) W ws) ∧ Hid (ArrIs 61 ws gw want') ∧ Hid (ArrIs 61 ws gn now)) (fun v _ => 10 - (intOf v).toNat)
        case atStart => exact ⟨0, c + 1, s5, want, want, Nat.zero_le _, by decide, by omega, rfl, HKE0, HO5, HK5, HAW5, hA5⟩
        case round =>
          obtain ⟨j, c', t, now, want', hjl, hj10, hc', rfl, hI, hO, hK, hAW, hAN⟩ := hrel
          have hout2 : (j < len2 ∧ j < 10) ∨ ¬ j < len2 ∨ (j < len2 ∧ ¬ j < 10) := by omega
          rcases hout2 with ⟨hjl', hj10'⟩ | hout2
          · have hb10 : decide ((j : Int) < 10) = true := decide_eq_true (by omega)
            obtain ⟨x, hx⟩ : ∃ x, ls2[j]? = some x := ⟨_, List.getElem?_eq_getElem (by rw [HLL2.out]; exact hjl')⟩
            obtain ⟨bl, ol, rfl, hcx⟩ := (HLS2.out.kept hK.out (fun y hy e => by have := HLB2.out y hy (by omega); omega)) j x hx
            obtain ⟨hx1, hx2⟩ := HLI2.out x (List.mem_of_getElem? hx)
            obtain ⟨k5, hk5e⟩ : ∃ k5 : Nat, x % 4 = (k5 : Int) := ⟨(x % 4).toNat, by omega⟩
            have hk5 : k5 < 4 := by omega
            have HWX : Hid (∀ w : World, Calls Try.prog 9 #[.int .i64 x, .int .i64 4] w fun e w' => e = .returned (.int .i64 (k5 : Int)) ∧ w = w') := fun w => by rw [← hk5e]; exact within_any x 4 w hx1 hx2 (by decide) (by decide)
            obtain ⟨y, hy⟩ : ∃ y, y = j + 101 := ⟨_, rfl⟩
            have hyi : 101 + (j : Int) = (y : Int) := by omega
            have hyi2 : (j : Int) + 101 = (y : Int) := by omega
            have hy256 : y < 256 := by omega
            have HWR := hid_of (hI.out.lv.write hk5 hy256).1
            have HIN : Hid (K.getD j false = false → KeI (t.writeS (k5 : Int) (fullL [y])) (c' + 1) (j + 1) (now.set k5 y) want' K) := fun e => hI.out.writeN hk5 hy256 e
            have HIY : Hid (K.getD j false = true → KeI (t.writeS (k5 : Int) (fullL [y])) (c' + 1) (j + 1) (now.set k5 y) (want'.set k5 y) K) := fun e => hI.out.writeY hk5 hy256 e
            have HLV := hid_of hI.out.lv.live
            have HNLn := hid_of hI.out.lv.wl
            have HWLn := hid_of hI.out.wl
            clear hx hx1 hx2 hk5e hy hI
            go_wp2_with fail
            refine (HWX.out _).mono ?_
            rintro e w6 ⟨rfl, rfl⟩
            have HL3' : Hid (Bs (wr.alloc (.cells #[.int .u8 (y : Int)] 5)) (some ⟨wr.heap.size, 0, none⟩) 1 [y]) := lit_one wr y
            have HO3' : Hid (One Di (fun k => k < W.heap.size ∨ k = gw ∨ k = gn) (wr.alloc (.cells #[.int .u8 (y : Int)] 5)) d t) := hO.out.keep C (Kept.alloc _ _ _) (fun k e => .inl e)
            have HF3 := hid_of (one_full C HO3'.out (some ⟨wr.heap.size, 0, none⟩) 1 1 [y] rfl HL3'.out)
            have HK3' : Hid (Kept (fun k => W.heap.size ≤ k) W (wr.alloc (.cells #[.int .u8 (y : Int)] 5))) := hK.out.trans (Kept.alloc _ _ _)
            have HAW3 := hid_of (hAW.out.kept (Kept.alloc (fun _ => False) _ (.cells #[.int .u8 (y : Int)] 5)) (fun h => h))
            have HAN3 := hid_of (hAN.out.kept (Kept.alloc (fun _ => False) _ (.cells #[.int .u8 (y : Int)] 5)) (fun h => h))
            go_wp2_with fail
            refine HF3.out.mono ?_
            rintro e w7 ⟨g7, rfl, hb7, -, ho7, hbl7, hg7, hg7'⟩
            have HK7 : Hid (Kept (fun k => W.heap.size ≤ k) W w7) := HK3'.out.trans ((Below.kept0 hbl7).mono (fun k _ e => Nat.le_trans HK3'.out.size e))
            have HAW7 := hid_of (HAW3.out.kept (F := fun _ => False) (Kept.of_below hbl7) (fun h => h))
            have HAN7 := hid_of (HAN3.out.kept (F := fun _ => False) (Kept.of_below hbl7) (fun h => h))
            have HCW := hid_of (one_write C ho7 (k5 : Int) ⟨by omega, by omega⟩ g7 128 128 (fullL [y]) (length_fullL [y]) hb7 (fullL_lt (fun x hx => by rw [List.mem_singleton.1 hx]; exact hy256)) (by decide) (.inr rfl) (by have := HLV.out.wr; omega) (by have := HLV.out.wl; omega) 0 HWR.out _ rfl)
            clear hb7 ho7 hbl7 HF3 HL3' HO3' HAW3 HAN3 HK3' hg7 hg7'
            go_wp2_with fail
            refine HCW.out.mono ?_
            rintro e w8 ⟨rfl, ho8, hk8⟩
            have HO8 : Hid (One Di (fun k => k < W.heap.size ∨ k = gw ∨ k = gn) w8 d (t.writeS (k5 : Int) (fullL [y]))) := ho8.less (fun k e => .inl e)
            have HK8 : Hid (Kept (fun k => W.heap.size ≤ k) W w8) := HK7.out.trans (hk8.mono (fun k _ e => Nat.le_of_not_lt (fun h => e (.inl (.inl h)))))
            have HAW8 := hid_of (HAW7.out.kept hk8 (fun f => f (.inl (.inr (.inl rfl)))))
            have HAN8 := hid_of (HAN7.out.kept hk8 (fun f => f (.inl (.inr (.inr rfl)))))
            clear ho8 hk8 HCW HAW7 HAN7 HK7
            obtain ⟨u, hu⟩ : ∃ u, now[k5]? = some u := ⟨_, List.getElem?_eq_getElem (by rw [HNLn.out]; exact hk5)⟩
            obtain ⟨cn1, cn2⟩ := HAN8.out.cell hu
            obtain ⟨w9, hw9⟩ : ∃ w9, w9 = w8.setCell ⟨gn, k5, none⟩ (.int .u8 (y : Int)) := ⟨_, rfl⟩
            have hk9 : Kept (fun k => k = gn) w8 w9 := by rw [hw9]; exact Kept.setCell _ _ _ rfl
            have HAN9 : Hid (ArrIs 61 w9 gn (now.set k5 y)) := by show ArrIs _ _ _ _; rw [hw9]; exact HAN8.out.set k5 y
            have HAW9 := hid_of (HAW8.out.kept hk9 hgne)
            have HO9 : Hid (One Di (fun k => k < W.heap.size ∨ k = gw ∨ k = gn) w9 d (t.writeS (k5 : Int) (fullL [y]))) := HO8.out.keep C (hk9.mono (fun k _ e => .inl (.inr (.inr e)))) (fun k e => .inl e)
            have HK9 : Hid (Kept (fun k => W.heap.size ≤ k) W w9) := HK8.out.trans (hk9.mono (fun k _ e => by omega))
            clear hu hk9
            go_upto_region 22 with fail
            rw [← hw9]
            clear hw9 cn1 cn2 HO8 HK8 HAW8 HAN8
            by_cases hj3 : j < len3
            · obtain ⟨b, hb⟩ : ∃ b, K[j]? = some b := ⟨_, List.getElem?_eq_getElem (by rw [HKL.out]; exact hj3)⟩
              obtain ⟨bk, ok, rfl, hck⟩ := (HKB.out.kept HK9.out (fun hne y hy e => by have := HKX.out hne y hy; omega)) j b hb
              have hgd : K.getD j false = b := by rw [List.getD_eq_getElem?_getD, hb]; rfl
              cases b
              · have HI9 := hid_of (HIN.out hgd)
                clear hgd hb HIN HIY
                go_wp2_with fail
                refine ⟨?_, by (simp [intOf]) <;> omega⟩
                first
                  | exact ⟨j + 1, c' + 1, _, _, _, by omega, by omega, by omega, by go_num, HI9, HO9, HK9, HAW9, HAN9⟩
                  | ((repeat apply Exists.intro); refine ⟨?_, rfl⟩; exact ⟨j + 1, c' + 1, _, _, _, by omega, by omega, by omega, by go_num, HI9, HO9, HK9, HAW9, HAN9⟩)
              · have HI9 := hid_of (HIY.out hgd)
                clear hgd hb HIN HIY
                obtain ⟨u, hu⟩ : ∃ u, want'[k5]? = some u := ⟨_, List.getElem?_eq_getElem (by rw [HWLn.out]; exact hk5)⟩
                obtain ⟨cn1, cn2⟩ := HAW9.out.cell hu
                obtain ⟨w10, hw10⟩ : ∃ w10, w10 = w9.setCell ⟨gw, k5, none⟩ (.int .u8 (y : Int)) := ⟨_, rfl⟩
                have hk10 : Kept (fun k => k = gw) w9 w10 := by rw [hw10]; exact Kept.setCell _ _ _ rfl
                have HAW10 : Hid (ArrIs 61 w10 gw (want'.set k5 y)) := by show ArrIs _ _ _ _; rw [hw10]; exact HAW9.out.set k5 y
                have HAN10 := hid_of (HAN9.out.kept hk10 (fun e => hgne e.symm))
                have HO10 : Hid (One Di (fun k => k < W.heap.size ∨ k = gw ∨ k = gn) w10 d (t.writeS (k5 : Int) (fullL [y]))) := HO9.out.keep C (hk10.mono (fun k _ e => .inl (.inr (.inl e)))) (fun k e => .inl e)
                have HK10 : Hid (Kept (fun k => W.heap.size ≤ k) W w10) := HK9.out.trans (hk10.mono (fun k _ e => by omega))
                clear hu hk10
                go_wp2_with fail
                rw [← hw10]
                refine ⟨?_, by (simp [intOf]) <;> omega⟩
                first
                  | exact ⟨j + 1, c' + 1, _, _, _, by omega, by omega, by omega, by go_num, HI9, HO10, HK10, HAW10, HAN10⟩
                  | ((repeat apply Exists.intro); refine ⟨?_, rfl⟩; exact ⟨j + 1, c' + 1, _, _, _, by omega, by omega, by omega, by go_num, HI9, HO10, HK10, HAW10, HAN10⟩)
            · have hbl3 : decide (j < len3) = false := decide_eq_false hj3
              have hgd : K.getD j false = false := by rw [List.getD_eq_getElem?_getD, List.getElem?_eq_none (by rw [HKL.out]; omega)]; rfl
              have HI9 := hid_of (HIN.out hgd)
              clear hgd HIN HIY
              go_wp2_with fail
              refine ⟨?_, by (simp [intOf]) <;> omega⟩
              first
                | exact ⟨j + 1, c' + 1, _, _, _, by omega, by omega, by omega, by go_num, HI9, HO9, HK9, HAW9, HAN9⟩
                | ((repeat apply Exists.intro); refine ⟨?_, rfl⟩; exact ⟨j + 1, c' + 1, _, _, _, by omega, by omega, by omega, by go_num, HI9, HO9, HK9, HAW9, HAN9⟩)
          · have hex2 : decide (j < len2) = false ∨ (j < len2 ∧ decide ((j : Int) < 10) = false) := hout2.elim (fun h => .inl (decide_eq_false h)) (fun h => .inr ⟨h.1, decide_eq_false (by omega)⟩)
            have HI0 := hI
            rcases hex2 with hbl2 | ⟨hjl', hb10⟩
            all_goals
              go_wp2_with fail
              go_loopw [108] (fun v ws => ∃ (k c'' : Nat) (t : Sk), k ≤ 4 ∧ c'' ≤ 19 + k ∧ v = .int .i64 (k : Int) ∧ Hid (KeI t c'' j now want' K) ∧ Hid (One Di (fun k => k < W.heap.size ∨ k = gw ∨ k = gn) ws d t) ∧ Hid (Kept (fun k => W.heap.size ≤ k) W ws) ∧ Hid (ArrIs 61 ws gw want') ∧ Hid (ArrIs 61 ws gn now)) (fun v _ => 4 - (intOf v).toNat)
              case atStart => exact ⟨0, c', t, by decide, by omega, rfl, HI0, hO, hK, hAW, hAN⟩
              case round =>
                obtain ⟨k, c'', t, hk4, hc'', rfl, hI, hO, hK, hAW, hAN⟩ := hrel
                by_cases hk : k < 4
                · obtain ⟨hrd, hIn⟩ := hI.out.read hk
                  obtain ⟨R, hR⟩ : ∃ R, R = t.now k := ⟨_, rfl⟩
                  rw [← hR] at hrd
                  have HRD := hid_of hrd
                  have HIN := hid_of hIn
                  have HLV := hid_of hI.out.lv.live
                  obtain ⟨xn, hxn⟩ : ∃ x, now[k]? = some x := ⟨_, List.getElem?_eq_getElem (by rw [hI.out.lv.wl]; exact hk)⟩
                  have hR0 : R[0]? = some xn := by rw [hR]; exact hI.out.lv.hn k xn hk hxn
                  have hRL : R.length = 128 := by rw [hR]; exact (t.now_fine HLV.out.fine (by rw [HLV.out.bl]; omega)).1
                  have HR0 := hid_of hR0
                  have HRL := hid_of hRL
                  have hcn := (hAN.out.cell hxn).1
                  clear hrd hIn hR hR0 hRL hxn
                  go_wp2_with fail
                  refine (one_read C CR hO.out (k : Int) ⟨by omega, by omega⟩ (by have := HLV.out.rd; omega) (by have := HLV.out.wl; omega) R 0 HRD.out _ rfl).mono ?_
                  rintro e w3 ⟨v3, rfl, hv3, ho3, hk3⟩
                  obtain ⟨g3, Y3, rfl, hg3, hr3, ht3, hly, hmy⟩ : ∃ (g : Nat) (Y : List Nat), v3 = .slice (some ⟨g, 0, none⟩) R.length Y.length ∧ wr.heap.size ≤ g ∧ RowIs w3 g (u8s Y) ∧ Y.take R.length = R ∧ R.length ≤ Y.length ∧ Y.length ≤ maxLen := by
                    rcases hv3 with ⟨_, e⟩ | h
                    · exfalso
                      have := HRL.out
                      rw [e] at this
                      simp at this
                    · exact h
                  obtain ⟨c3, hc3'⟩ : ∃ c3, c3 = Y3.length := ⟨_, rfl⟩
                  have hc30 : w3.cell? ⟨g3, 0, none⟩ = some (.int .u8 (xn : Int)) := by
                    obtain ⟨b', o', e, hc⟩ := sl_cell (SlAt.of_owns hv3.own) HR0.out
                    cases e
                    rw [Nat.zero_add] at hc
                    exact hc
                  have hcn3 : w3.cell? ⟨gn, k, none⟩ = some (.int .u8 (xn : Int)) := by rw [hk3.cell hAN.out.lt (fun f => f (.inr (.inr rfl)))]; exact hcn
                  have HO3' : Hid (One Di (fun k => k < W.heap.size ∨ k = gw ∨ k = gn) w3 d (t.readS (k : Int))) := ho3.less (fun j e => .inl e)
                  have HK3' : Hid (Kept (fun j => W.heap.size ≤ j) W w3) := hK.out.trans (hk3.mono (fun j _ e => Nat.le_of_not_lt (fun h => e (.inl h))))
                  have HAW3' := hid_of (hAW.out.kept hk3 (fun f => f (.inr (.inl rfl))))
                  have HAN3' := hid_of (hAN.out.kept hk3 (fun f => f (.inr (.inr rfl))))
                  rw [HRL.out, ← hc3']
                  clear hv3 ho3 hk3 hr3 ht3 hly hmy hc3' hcn hO hK hAW hAN
                  go_wp2_with fail
                  go_quiet (fail)
                  go_wp2_with fail
                  refine ⟨?_, by (simp [intOf]) <;> omega⟩
                  first
                    | exact ⟨k + 1, c'' + 1, _, by omega, by omega, by go_num, HIN, HO3'.out.draws C nq, ⟨HK3'.out.os, HK3'.out.tape, HK3'.out.output, HK3'.out.size, HK3'.out.block⟩, HAW3'.out, HAN3'.out⟩
                    | ((repeat apply Exists.intro); refine ⟨?_, rfl⟩; exact ⟨k + 1, c'' + 1, _, by omega, by omega, by go_num, HIN, HO3'.out.draws C nq, ⟨HK3'.out.os, HK3'.out.tape, HK3'.out.output, HK3'.out.size, HK3'.out.block⟩, HAW3'.out, HAN3'.out⟩)
                · obtain rfl : k = 4 := by omega
                  obtain ⟨hcr, hcw⟩ := hI.out.crash hj10 K2 HK2E.out
                  obtain ⟨s6, hs6⟩ : ∃ s6, s6 = t.crashS K2 := ⟨_, rfl⟩
                  rw [← hs6] at hcr hcw
                  have HS6 := hid_of hs6
                  have HCR6 := hid_of hcr
                  have HCW6 := hid_of hcw
                  have HLV := hid_of hI.out.lv.live
                  clear hs6 hcr hcw
                  go_wp2_with fail
                  refine (cutBool_any _ a3 len3 cap3 10 hc3 hlen3 (by decide) ml HMLE.out).mono ?_
                  rintro e w5 ⟨rfl, rfl⟩
                  go_wp2_with fail
                  have HBK : Hid (BlAt wr a3 K2) := HK2B.out.kept hK.out (fun hne y hy e => Nat.lt_irrefl _ (Nat.lt_of_lt_of_le (HK2X.out hne y hy) e))
                  refine (one_crash C hO.out a3 ml cap3 K2 HK2L.out HBK.out HML.out (fun hne y hy => .inl (HK2X.out hne y hy)) (by have := HLV.out.wl; omega) s6 HS6.out).mono ?_
                  rintro e w6 ⟨rfl, ho6, hk6⟩
                  have HO6 := hid_of ho6
                  have HK6 : Hid (Kept (fun k => W.heap.size ≤ k) W w6) := hK.out.trans (hk6.mono (fun k _ e => Nat.le_of_not_lt (fun h => e (.inl h))))
                  have HAW6 := hid_of (hAW.out.kept hk6 (fun f => f (.inr (.inl rfl))))
                  clear ho6 hk6 HBK hO hK hAW hAN hI
                  go_wp2_with fail
                  go_loopw [138] (fun v ws => ∃ (k c3 : Nat) (t : Sk), k ≤ 4 ∧ c3 ≤ 23 + k ∧ v = .int .i64 (k : Int) ∧ Hid (LvI t c3 want') ∧ Hid (t.W = []) ∧ Hid (One Di (fun k => k < W.heap.size ∨ k = gw ∨ k = gn) ws d t) ∧ Hid (Kept (fun k => W.heap.size ≤ k) W ws) ∧ Hid (ArrIs 61 ws gw want')) (fun v _ => 4 - (intOf v).toNat)
                  case atStart => exact ⟨0, c'', s6, by decide, by omega, rfl, HCR6, HCW6, HO6, HK6, HAW6⟩
                  case round =>
                    obtain ⟨k, c3, t, hk4, hc3', rfl, hI, hW0, hO, hK, hAW⟩ := hrel
                    by_cases hk : k < 4
                    · obtain ⟨hrd, hIn, hWn⟩ := hI.out.read hk
                      obtain ⟨R, hR⟩ : ∃ R, R = t.now k := ⟨_, rfl⟩
                      rw [← hR] at hrd
                      rw [hW0.out] at hWn
                      have HRD := hid_of hrd
                      have HIN := hid_of hIn
                      have HWN6 := hid_of hWn
                      have HLV := hid_of hI.out.live
                      obtain ⟨xn, hxn⟩ : ∃ x, want'[k]? = some x := ⟨_, List.getElem?_eq_getElem (by rw [hI.out.wl]; exact hk)⟩
                      have hR0 : R[0]? = some xn := by rw [hR]; exact hI.out.hn k xn hk hxn
                      have hRL : R.length = 128 := by rw [hR]; exact (t.now_fine HLV.out.fine (by rw [HLV.out.bl]; omega)).1
                      have HR0 := hid_of hR0
                      have HRL := hid_of hRL
                      have hcn := (hAW.out.cell hxn).1
                      clear hrd hIn hR hR0 hRL hxn hWn
                      go_wp2_with fail
                      refine (one_read C CR hO.out (k : Int) ⟨by omega, by omega⟩ (by have := HLV.out.rd; omega) (by have := HLV.out.wl; omega) R 0 HRD.out _ rfl).mono ?_
                      rintro e w3 ⟨v3, rfl, hv3, ho3, hk3⟩
                      obtain ⟨g3, Y3, rfl, hg3, hr3, ht3, hly, hmy⟩ : ∃ (g : Nat) (Y : List Nat), v3 = .slice (some ⟨g, 0, none⟩) R.length Y.length ∧ wr.heap.size ≤ g ∧ RowIs w3 g (u8s Y) ∧ Y.take R.length = R ∧ R.length ≤ Y.length ∧ Y.length ≤ maxLen := by
                        rcases hv3 with ⟨_, e⟩ | h
                        · exfalso
                          have := HRL.out
                          rw [e] at this
                          simp at this
                        · exact h
                      obtain ⟨c4, hc4'⟩ : ∃ c4, c4 = Y3.length := ⟨_, rfl⟩
                      have hc30 : w3.cell? ⟨g3, 0, none⟩ = some (.int .u8 (xn : Int)) := by
                        obtain ⟨b', o', e, hc⟩ := sl_cell (SlAt.of_owns hv3.own) HR0.out
                        cases e
                        rw [Nat.zero_add] at hc
                        exact hc
                      have hcn3 : w3.cell? ⟨gw, k, none⟩ = some (.int .u8 (xn : Int)) := by rw [hk3.cell hAW.out.lt (fun f => f (.inr (.inl rfl)))]; exact hcn
                      have HO3' : Hid (One Di (fun k => k < W.heap.size ∨ k = gw ∨ k = gn) w3 d (t.readS (k : Int))) := ho3.less (fun j e => .inl e)
                      have HK3' : Hid (Kept (fun j => W.heap.size ≤ j) W w3) := hK.out.trans (hk3.mono (fun j _ e => Nat.le_of_not_lt (fun h => e (.inl h))))
                      have HAW3' := hid_of (hAW.out.kept hk3 (fun f => f (.inr (.inl rfl))))
                      rw [HRL.out, ← hc4']
                      clear hv3 ho3 hk3 hr3 ht3 hly hmy hc4' hcn hO hK hAW
                      go_wp2_with fail
                      go_quiet (fail)
                      go_wp2_with fail
                      refine ⟨?_, by (simp [intOf]) <;> omega⟩
                      first
                        | exact ⟨k + 1, c3 + 1, _, by omega, by omega, by go_num, HIN, HWN6, HO3'.out.draws C nq, ⟨HK3'.out.os, HK3'.out.tape, HK3'.out.output, HK3'.out.size, HK3'.out.block⟩, HAW3'.out⟩
                        | ((repeat apply Exists.intro); refine ⟨?_, rfl⟩; exact ⟨k + 1, c3 + 1, _, by omega, by omega, by go_num, HIN, HWN6, HO3'.out.draws C nq, ⟨HK3'.out.os, HK3'.out.tape, HK3'.out.output, HK3'.out.size, HK3'.out.block⟩, HAW3'.out⟩)
                    · obtain rfl : k = 4 := by omega
                      go_wp2_with fail
                      refine (one_wait C hO.out 0 (by rw [hW0.out]; rfl)).mono ?_
                      rintro e wB ⟨rfl, nB, rfl⟩
                      have HKB' : Hid (Kept (fun k => W.heap.size ≤ k) W (wr.drewN nB)) := ⟨hK.out.os, hK.out.tape, hK.out.output, hK.out.size, hK.out.block⟩
                      go_wp2_with fail
                      refine (wakes10_any C _).mono ?_
                      rintro e wC ⟨rfl, hbC⟩
                      have HBC : Hid (Below W.heap.size W wC) := (HKB'.out.below_of (Below.refl _ _) (fun k e => e) (Nat.le_refl _)).trans (hbC.mono HKB'.out.size)
                      clear hbC
                      go_wp2_with fail
                      go_ret
                      exact ⟨rfl, HBC.out⟩

end Go.Proofs.Ytjmeneddhalodaa
