/- CrcParts: the walk of the law. -/
import Derived.Test.YthcjgcfmodkiiaaCrc6
import Derived.Deep.CutRange
import Derived.Deep.RegionWith
namespace Go.Proofs.Ythcjgcfmodkiiaa
set_option linter.unusedVariables false
set_option linter.unusedSimpArgs false
open Go.RowKit Dg Cr

/-- The exclusive or of two rows. -/
def xo (l l' : List Nat) : List Nat := List.zipWith (· ^^^ ·) l l'
theorem xo_next (l l' : List Nat) (j N y : Nat) (hl : (xo l l').length = N) (hj : j < N) (hy : (xo l l')[j]? = some y) :
    ((xo l l').take j ++ List.replicate (N - j) 0).set j y = (xo l l').take (j + 1) ++ List.replicate (N - (j + 1)) 0 := by
  have e1 : ((xo l l').take j).length = j := by simp [hl]; omega
  rw [List.set_append, if_neg (by rw [e1]; omega), e1, Nat.sub_self, show N - j = (N - (j + 1)) + 1 by omega, List.replicate_succ, List.set_cons_zero, List.take_add_one, hy]
  simp
theorem sl_cell {w : World} {a : Option Addr} {n cap : Nat} {l : List Nat} {j x : Nat} (h : SlAt w (.slice a n cap) l) (hx : l[j]? = some x) :
    ∃ b off, a = some ⟨b, off, none⟩ ∧ w.cell? ⟨b, off + j, none⟩ = some (.int .u8 ((x : Nat) : Int)) := by
  obtain ⟨a1, c1, e, hc⟩ := h
  cases e
  exact hc j x hx

theorem xo_lt (l l' : List Nat) (h : ∀ x ∈ l, x < 256) (h' : ∀ x ∈ l', x < 256) (i y : Nat) (hy : (xo l l')[i]? = some y) : y < 256 := by
  unfold xo at hy
  rw [List.getElem?_zipWith] at hy
  cases h1 : l[i]? with
  | none => rw [h1] at hy; cases hy
  | some p =>
    cases h2 : l'[i]? with
    | none => rw [h1, h2] at hy; cases hy
    | some q =>
      rw [h1, h2] at hy
      cases hy
      exact Nat.xor_lt_two_pow (n := 8) (h p (List.mem_of_getElem? h1)) (h' q (List.mem_of_getElem? h2))
theorem SlAt.take {w : World} {a : Option Addr} {n cap : Nat} {l : List Nat} (h : SlAt w (.slice a n cap) l) (k : Nat) (hk : k ≤ n) (hl : l.length = n) : SlAt w (.slice a k cap) (l.take k) := by
  refine ⟨a, cap, by simp; omega, fun j x hx => ?_⟩
  rw [List.getElem?_take] at hx
  split at hx
  · exact sl_cell h hx
  · cases hx
theorem SlAt.none_of (w : World) (a : Option Addr) (c : Nat) {n : Nat} (hn : n = 0) : SlAt w (.slice a n c) [] := ⟨a, c, by rw [hn]; rfl, fun j x hx => by simp at hx⟩
theorem SlAt.addr {w : World} {a : Option Addr} {n cap : Nat} {l : List Nat} (h : SlAt w (.slice a n cap) l) (hne : l ≠ []) : ∃ b off, a = some ⟨b, off, none⟩ := by
  have hpos : 0 < l.length := List.length_pos_iff.2 hne
  obtain ⟨b, off, e, _⟩ := sl_cell h (show l[0]? = some l[0] by simp)
  exact ⟨b, off, e⟩
theorem SlAt.drop {w : World} {x : Addr} {n cap c : Nat} {l : List Nat} (h : SlAt w (.slice (some x) n cap) l) (k : Nat) (hk : k ≤ n) (hl : l.length = n) : SlAt w (.slice (some (x.add k)) (n - k) c) (l.drop k) := by
  refine ⟨some (x.add k), c, by simp [hl], fun j y hy => ?_⟩
  rw [List.getElem?_drop] at hy
  obtain ⟨b, off, e, hc⟩ := sl_cell h hy
  cases e
  exact ⟨b, off + k, by simp [Addr.add], by rw [Nat.add_assoc]; exact hc⟩
/-- What holds between the law's last calls. -/
structure PSt (W : World) (base gc gz N : Nat) (lx : List Nat) (wx : World) : Prop where
  tb : ∃ m, TbAt wx W.heap.size m
  bel : Below W.heap.size W wx
  oc : wx.ownsRow base 5 1 (.slice (some ⟨gc, 0, none⟩) N N) N (u8s lx)
  oz : wx.ownsRow base 5 1 (.slice (some ⟨gz, 0, none⟩) N N) N (u8s (List.replicate N 0))
  lt : W.heap.size < wx.heap.size
/-- A row that can be summed whenever that holds. -/
structure PRow (W : World) (base gc gz N : Nat) (lx : List Nat) (v : Value) (l : List Nat) (s x : Nat) : Prop where
  sl : ∀ wx, PSt W base gc gz N lx wx → SlAt wx v l
  far : l ≠ [] → ∀ k, v.ownBlock = some k → k ≠ W.heap.size
  small : l.length ≤ 1000000
  byte : ∀ y ∈ l, y < 256
  s32 : s < 4294967296
  sum : x = (crc (BitVec.ofNat 32 s) l).toNat
theorem PSt.next {W wx w' : World} {base gc gz N : Nat} {lx : List Nat} {m : Bool} (h : PSt W base gc gz N lx wx) (hb : W.heap.size < base) (ht : TbAt w' W.heap.size m) (hk : Kept (fun k => k = W.heap.size) wx w') : PSt W base gc gz N lx w' :=
  ⟨⟨m, ht⟩, hk.below_of h.bel (fun k h => by omega) (Nat.le_of_lt h.lt), ownsRow_other h.oc hk (fun k hk' h' => by have := (h.oc.lt k hk').1; omega), ownsRow_other h.oz hk (fun k hk' h' => by have := (h.oz.lt k hk').1; omega), Nat.lt_of_lt_of_le h.lt hk.size⟩
theorem ones_ofNat : BitVec.ofNat 32 4294967295 = ones := rfl
theorem psum {W wx : World} {base gc gz N : Nat} {lx : List Nat} (h : PSt W base gc gz N lx wx) (hb : W.heap.size < base) {v : Value} {l : List Nat} {x : Nat} (hr : PRow W base gc gz N lx v l 4294967295 x) :
    Calls Try.prog 11 #[.pointer (some ⟨W.heap.size, 0, none⟩), v] wx fun e w' => e = .returned (.int .u32 (x : Int)) ∧ PSt W base gc gz N lx w' := by
  obtain ⟨m, ht⟩ := h.tb
  refine (tsum_at wx W.heap.size m v l x hr.sum ht (hr.sl wx h) hr.far hr.small hr.byte).mono ?_
  rintro e w' ⟨rfl, h1, h2⟩
  exact ⟨rfl, h.next hb h1 h2⟩
theorem padd {W wx : World} {base gc gz N : Nat} {lx : List Nat} (h : PSt W base gc gz N lx wx) (hb : W.heap.size < base) {v : Value} {l : List Nat} {s x : Nat} (hr : PRow W base gc gz N lx v l s x) :
    Calls Try.prog 19 #[.pointer (some ⟨W.heap.size, 0, none⟩), .int .u32 (s : Int), v] wx fun e w' => e = .returned (.int .u32 (x : Int)) ∧ PSt W base gc gz N lx w' := by
  obtain ⟨m, ht⟩ := h.tb
  refine (tadd_at wx W.heap.size m s v l x hr.s32 hr.sum ht (hr.sl wx h) hr.far hr.small hr.byte).mono ?_
  rintro e w' ⟨rfl, h1, h2⟩
  exact ⟨rfl, h.next hb h1 h2⟩
theorem pwakes {W wx : World} {base gc gz N : Nat} {lx : List Nat} (h : PSt W base gc gz N lx wx) :
    Calls Try.prog 13 #[] wx fun e w' => e = .returned (.bool true) ∧ PSt W base gc gz N lx w' := by
  refine (wakes3_any wx).mono ?_
  rintro e w' ⟨rfl, hb⟩
  obtain ⟨m, ht⟩ := h.tb
  exact ⟨rfl, ⟨m, ht.below hb h.lt⟩, h.bel.trans (hb.mono (Nat.le_of_lt h.lt)), ownsRow_other h.oc (Kept.of_below hb) (fun _ _ h => h), ownsRow_other h.oz (Kept.of_below hb) (fun _ _ h => h), Nat.lt_of_lt_of_le h.lt hb.size⟩
/-- A region that draws its order, every operation quiet in a class of worlds: one walk. -/
theorem wp_region_class {P : Program} {C : World → Prop} {id : Nat} {Q : Exit → Act → World → Prop} {a : Act} {w : World} {l : List Oper} (hm : P.follows .mixedOrders = true) (hB : Region.lexB .any l.toArray = true) (hC : C w.drew)
    (h : wpQuiet P l.toArray C (fun a' => ∀ w', C w' → Q .normal a' w') l a) : (Code.region id l.toArray true).wp P Q a w :=
  wp_region_quiet hm hB hC (by simpa using h)
/-- Rows that came in. -/
theorem PRow.came {W : World} {base gc gz N : Nat} {lx : List Nat} {v : Value} {l : List Nat} (h : SlAt W v l) (hs : l.length ≤ 1000000) (hb : ∀ y ∈ l, y < 256) (s : Nat) (hs32 : s < 4294967296) :
    PRow W base gc gz N lx v l s (crc (BitVec.ofNat 32 s) l).toNat :=
  ⟨fun wx hp => h.below hp.bel, fun hne k hk => by have := h.lt hne k hk; omega, hs, hb, hs32, rfl⟩
/-- The sum of an exclusive or. -/
theorem crc_xo : ∀ (l l' : List Nat) (a b : BitVec 32), l.length = l'.length → crc (a ^^^ b) (xo l l') = crc a l ^^^ crc b l'
  | [], [], a, b, _ => rfl
  | [], e :: es, a, b, h => by simp at h
  | d :: ds, [], a, b, h => by simp at h
  | d :: ds, e :: es, a, b, h => by
    have h' : ds.length = es.length := by simpa using h
    have e1 : stepB (a ^^^ b) (d ^^^ e) = stepB a d ^^^ stepB b e := by
      have e2 : BitVec.ofNat 32 (d ^^^ e) = BitVec.ofNat 32 d ^^^ BitVec.ofNat 32 e := by
        apply BitVec.eq_of_getLsbD_eq
        intro i hi
        simp [BitVec.getLsbD_xor, BitVec.getLsbD_ofNat, Nat.testBit_xor, hi]
      unfold stepB
      rw [← upN_xor, e2, BitVec.shiftLeft_xor_distrib, xor_swap4]
    have e3 : xo (d :: ds) (e :: es) = (d ^^^ e) :: xo ds es := rfl
    rw [e3, crc_cons, crc_cons, crc_cons, e1, crc_xo ds es _ _ h']
theorem xo_zero_right : ∀ (l : List Nat), xo l (List.replicate l.length 0) = l
  | [] => rfl
  | d :: ds => by
    have e : xo (d :: ds) (List.replicate (d :: ds).length 0) = (d ^^^ 0) :: xo ds (List.replicate ds.length 0) := rfl
    rw [e, Nat.xor_zero, xo_zero_right ds]
theorem crc_three (l l' : List Nat) (n : Nat) (hl : l.length = n) (hl' : l'.length = n) (v : BitVec 32) :
    crc v l ^^^ crc v l' ^^^ crc v (List.replicate n 0) = crc v (xo l l') := by
  have h1 := crc_xo l l' v v (by omega)
  rw [BitVec.xor_self] at h1
  have h2 := crc_xo (xo l l') (List.replicate n 0) 0#32 v (by simp [xo, hl, hl'])
  have e : xo (xo l l') (List.replicate n 0) = xo l l' := by
    have h3 := xo_zero_right (xo l l')
    have h4 : (xo l l').length = n := by simp [xo, hl, hl']
    rw [h4] at h3; exact h3
  rw [e, BitVec.zero_xor, h1] at h2
  exact h2.symm

set_option maxHeartbeats 4000000 in
theorem parts_any (w : World) (a : Option Addr) (len cap : Nat) (zs : List Int) (a' : Option Addr) (len' cap' : Nat) (zs' : List Int) (cut : Int) (hr : IsRow .u8 w a len cap zs) (hr' : IsRow .u8 w a' len' cap' zs') (hn : -9223372036854775808 ≤ cut ∧ cut ≤ 9223372036854775807) :
    Calls Try.prog 7 #[.slice a len cap, .slice a' len' cap', .int .i64 cut] w fun e w' => e = .returned (.bool true) ∧ Below w.heap.size w w' := by
  obtain ⟨i0, hi, hz0, hz1, hz2⟩ := info_parts Try.info5
  obtain ⟨N, hN⟩ : ∃ N, N = min (min len len') 120 := ⟨_, rfl⟩
  obtain ⟨l, hll, h256, hsl, hc1, hc2, hc3⟩ := cut_row (n := N) hr
  obtain ⟨l', hll', h256', hsl', hc1', hc2', hc3'⟩ := cut_row (n := N) hr'
  have e1 : min len N = N := by omega
  have e2 : min len' N = N := by omega
  rw [e1] at hll hsl
  rw [e2] at hll' hsl'
  have hN1 : N ≤ len := by omega
  have hN2 : N ≤ len' := by omega
  have hN3 : N ≤ 120 := by omega
  have HN : Hid (N = min (min len len') 120) := hN
  have HL : Hid (l.length = N) := hll
  have HL' : Hid (l'.length = N) := hll'
  have HS : Hid (SlAt w (.slice a N cap) l) := hsl
  have HS' : Hid (SlAt w (.slice a' N cap') l') := hsl'
  have H256 : Hid (∀ x ∈ l, x < 256) := h256
  have H256' : Hid (∀ x ∈ l', x < 256) := h256'
  have HC3 : Hid (a = none → len = 0 ∧ cap = 0) := hc3
  have HC3' : Hid (a' = none → len' = 0 ∧ cap' = 0) := hc3'
  unfold maxLen at hc2 hc2'
  clear hll hsl h256 hc3 hr hll' hsl' h256' hc3' hr' hN e1 e2
  go_enter Try.func7, Try.ntmps7
  go_upto_region 1 with fail
  go_cut [7] from 13 to 18 (fun s wx => s = .int .i64 (N : Int) ∧ w = wx)
  case first =>
    go_wp2
    all_goals go_meet
    · refine ⟨congrArg (fun z : Int => Value.int .i64 z) ?_, rfl⟩
      have := HN.out
      split at h <;> omega
    · refine ⟨congrArg (fun z : Int => Value.int .i64 z) ?_, rfl⟩
      rename_i h1
      have := HN.out
      rw [if_pos h] at h1
      omega
    · refine ⟨congrArg (fun z : Int => Value.int .i64 z) ?_, rfl⟩
      rename_i h1
      have := HN.out
      rw [if_neg h] at h1
      omega
  case rest =>
    obtain ⟨rfl, rfl⟩ := hcut
    go_wp2
    go_region
    go_wp2_with fail
    refine (tnew_any _).mono ?_
    rintro e w1 ⟨rfl, ht1, hb1, hs1⟩
    have hs1' : w.heap.size < w1.heap.size := hs1
    have HT1 : Hid (TbAt w1 w.heap.size false) := ht1
    have HB1 : Hid (Below w.heap.size w w1) := (Below.refl _ _).drew.trans hb1
    clear ht1 hb1 hs1 HC3'
    obtain ⟨Z, hZ⟩ : ∃ Z, Z = madeCells (Value.int .u8 0).cells (N * 1) := ⟨_, rfl⟩
    have HZ : Hid (Z.toList = u8s (List.replicate N 0)) := by rw [hZ]; exact made_zeros N
    have hmk : ∀ W : World, (Instr.makeSlice 22 (.int .i64 (N : Int)) (.int .i64 (N : Int))).run Try.prog W = .ok (.slice (some ⟨W.heap.size, 0, none⟩) N N) (W.alloc (.cells Z 5)) := by
      intro W
      have h := run_make (P := Try.prog) W 22 5 i0 (.int .u8 0) Try.underlying22 hi hz0 .i64 .i64 N N (by omega) (by omega) (by rw [hz2]; omega) (by omega)
      simp only [Int.toNat_natCast, hz1] at h
      rw [h, hZ]
    clear hZ
    have hsz : (w1.alloc (.cells Z 5)).heap.size = w1.heap.size + 1 := by simp
    have OA : Hid (((w1.alloc (.cells Z 5)).alloc (.cells Z 5)).ownsRow w1.heap.size 5 1 (.slice (some ⟨w1.heap.size, 0, none⟩) N N) N (u8s (List.replicate N 0))) := (own_new w1 w1.heap.size Z N _ HZ.out (by simp) (by omega) (Nat.le_refl _)).alloc _
    have OB : Hid (((w1.alloc (.cells Z 5)).alloc (.cells Z 5)).ownsRow w1.heap.size 5 1 (.slice (some ⟨w1.heap.size + 1, 0, none⟩) N N) N (u8s (List.replicate N 0))) := by
      have h := own_new (w1.alloc (.cells Z 5)) w1.heap.size Z N _ HZ.out (by simp) (by omega) (by omega)
      rw [hsz] at h
      exact h
    have OC : Hid (Below w1.heap.size w1 ((w1.alloc (.cells Z 5)).alloc (.cells Z 5))) := ((Below.refl _ _).alloc (Nat.le_refl _) _).alloc (by omega) _
    clear hsz
    go_upto_region 6 with fail
    go_cut [9, 10] from 27 to 31 (fun c z wx => ∃ gc gz : Nat, c = .slice (some ⟨gc, 0, none⟩) N N ∧ z = .slice (some ⟨gz, 0, none⟩) N N ∧ Hid (gc ≠ gz) ∧ Hid (wx.ownsRow w1.heap.size 5 1 (.slice (some ⟨gc, 0, none⟩) N N) N (u8s (List.replicate N 0))) ∧ Hid (wx.ownsRow w1.heap.size 5 1 (.slice (some ⟨gz, 0, none⟩) N N) N (u8s (List.replicate N 0))) ∧ Hid (Below w1.heap.size w1 wx))
    case first =>
      go_region
      all_goals (try go_wp2_with fail)
      all_goals go_meet
      · exact ⟨_, _, rfl, rfl, by show _ ≠ _; omega, OA.out, OB.out, OC.out.drew⟩
      · exact ⟨_, _, rfl, rfl, by show _ ≠ _; omega, OB.out, OA.out, OC.out.drew⟩
    case rest =>
      obtain ⟨gc, gz, rfl, rfl, hgcz, hoc, hoz, hbc⟩ := hcut
      have FC := hoc.out.lt gc rfl
      have FZ := hoz.out.lt gz rfl
      have hgne : gc ≠ gz := hgcz.out
      have HT2 : Hid (TbAt wc w.heap.size false) := HT1.out.below hbc.out hs1'
      have HB2 : Hid (Below w.heap.size w wc) := HB1.out.trans (hbc.out.mono (by omega))
      have hs2 : w1.heap.size ≤ wc.heap.size := hbc.out.size
      clear OA OB OC hmk HZ HT1 HB1 hbc hgcz
      go_wp2_with fail
      go_loopw [33] (fun i wr => ∃ j : Nat, j ≤ N ∧ i = .int .i64 j ∧ Hid (wr.ownsRow w1.heap.size 5 1 (.slice (some ⟨gc, 0, none⟩) N N) N (u8s ((xo l l').take j ++ List.replicate (N - j) 0))) ∧ Hid (Kept (fun k => k = gc) wc wr)) (fun i _ => N - (intOf i).toNat)
      case atStart => exact ⟨0, by omega, rfl, by show World.ownsRow _ _ _ _ _ _ _; simpa using hoc.out, Kept.refl _ _⟩
      case round =>
        obtain ⟨j, hj, rfl, ho, hk⟩ := hrel
        by_cases hjN : j < N
        · obtain ⟨x, hx⟩ : ∃ x, l[j]? = some x := ⟨l[j]'(by rw [HL.out]; exact hjN), by simp [HL.out, hjN]⟩
          obtain ⟨y, hy⟩ : ∃ y, l'[j]? = some y := ⟨l'[j]'(by rw [HL'.out]; exact hjN), by simp [HL'.out, hjN]⟩
          have hx256 : x < 256 := H256.out x (List.mem_of_getElem? hx)
          have hy256 : y < 256 := H256'.out y (List.mem_of_getElem? hy)
          have hB : Below w.heap.size w wr := hk.out.below_of HB2.out (fun k h => by omega) (by omega)
          obtain ⟨b1, o1, rfl, e1⟩ := sl_cell (HS.out.below hB) hx
          obtain ⟨b2, o2, rfl, e2⟩ := sl_cell (HS'.out.below hB) hy
          have hxo : (xo l l')[j]? = some (x ^^^ y) := by unfold xo; rw [List.getElem?_zipWith, hx, hy]
          have hcl : ((xo l l').take j ++ List.replicate (N - j) 0)[j]? = some 0 := by
            rw [List.getElem?_append_right (by simp; omega)]
            have hxl : (xo l l').length = N := by simp [xo, HL.out, HL'.out]
            have e0 : j - ((xo l l').take j).length = 0 := by simp [hxl]; omega
            rw [e0, List.getElem?_replicate, if_pos (by omega)]
          obtain ⟨hcc, hcf⟩ := own_cell ho.out hcl
          have HXY : Hid (bits BinOp.xor IntKind.u8 (x : Int) (y : Int) = ((x ^^^ y : Nat) : Int)) := u8_xor_nat x y hx256 hy256
          have HNX : Hid (((xo l l').take j ++ List.replicate (N - j) 0).set j (x ^^^ y) = (xo l l').take (j + 1) ++ List.replicate (N - (j + 1)) 0) := xo_next l l' j N _ (by simp [xo, HL.out, HL'.out]) hjN hxo
          clear hx hy hxo hcl hB
          go_wp2
          go_region
          all_goals go_wp2
          all_goals go_roundw
          case rel =>
            refine ⟨j + 1, by omega, by go_num, ?_, (hk.out.trans (Kept.setCell _ _ _ rfl)).drew⟩
            rw [HXY.out, ← HNX.out]
            exact own_set ho.out j (x ^^^ y) hjN
          case measure => simp [intOf]; omega
        · obtain rfl : j = N := by omega
          obtain ⟨k, hk'⟩ := Int.eq_ofNat_of_zero_le (Int.emod_nonneg cut (show (j : Int) + 1 ≠ 0 by omega))
          have hkN : k ≤ j := by have := Int.emod_lt_of_pos cut (show 0 < (j : Int) + 1 by omega); omega
          have HK : Hid (cut % ((j : Int) + 1) = (k : Int)) := hk'
          clear hk'
          go_wp2_with fail
          refine (within_any cut ((j : Int) + 1) _ hn.1 hn.2 (by omega) (by omega)).mono ?_
          rintro e w0 ⟨rfl, rfl⟩
          rw [HK.out]
          have hbase : w.heap.size < w1.heap.size := hs1'
          have hxl : (xo l l').length = j := by simp [xo, HL.out, HL'.out]
          have ho' := ho.out
          rw [Nat.sub_self, List.replicate_zero, List.append_nil, List.take_of_length_le (by omega)] at ho'
          have hp1 : TbAt wr w.heap.size false := HT2.out.kept hk.out (by omega)
          have hp2 : Below w.heap.size w wr := hk.out.below_of HB2.out (fun k h => by omega) (by omega)
          have hp3 : wr.ownsRow w1.heap.size 5 1 (.slice (some ⟨gz, 0, none⟩) j j) j (u8s (List.replicate j 0)) := ownsRow_other hoz.out hk.out (fun q hq h => by simp [Value.ownBlock] at hq; omega)
          have hp4 : w.heap.size < wr.heap.size := Nat.lt_of_lt_of_le (by omega) hk.out.size
          have HP : Hid (PSt w w1.heap.size gc gz j (xo l l') wr.drew) := ⟨⟨false, hp1⟩, hp2.drew, ho', hp3, hp4⟩
          clear hp1 hp2 hp3 hp4
          obtain ⟨X, hX⟩ : ∃ X, X = (crc ones l).toNat := ⟨_, rfl⟩
          obtain ⟨Y, hY⟩ : ∃ Y, Y = (crc ones l').toNat := ⟨_, rfl⟩
          obtain ⟨C, hC⟩ : ∃ C, C = (crc ones (xo l l')).toNat := ⟨_, rfl⟩
          obtain ⟨O, hO⟩ : ∃ O, O = (crc ones (List.replicate j 0)).toNat := ⟨_, rfl⟩
          obtain ⟨X1, hX1'⟩ : ∃ X1, X1 = (crc ones (l.take k)).toNat := ⟨_, rfl⟩
          have hX1 : X1 < 4294967296 := by rw [hX1']; exact BitVec.isLt _
          have hXlt : X < 4294967296 := by rw [hX]; exact BitVec.isLt _
          have hYlt : Y < 4294967296 := by rw [hY]; exact BitVec.isLt _
          have hOlt : O < 4294967296 := by rw [hO]; exact BitVec.isLt _
          have HX : Hid (X = (crc ones l).toNat) := hX
          have HX1 : Hid (X1 = (crc ones (l.take k)).toNat) := hX1'
          have hthree : bits BinOp.xor IntKind.u32 (bits BinOp.xor IntKind.u32 (X : Int) (Y : Int)) (O : Int) = (C : Int) := by
            rw [u32_xor_nat _ _ hXlt hYlt, u32_xor_nat _ _ (Nat.xor_lt_two_pow (n := 32) hXlt hYlt) hOlt, hC, ← crc_three l l' j HL.out HL'.out ones, hX, hY, hO, BitVec.toNat_xor, BitVec.toNat_xor]
          have HRa : Hid (PRow w w1.heap.size gc gz j (xo l l') (.slice a j cap) l 4294967295 X) := by rw [hX]; exact PRow.came HS.out (by rw [HL.out]; omega) H256.out _ (by decide)
          have HRb : Hid (PRow w w1.heap.size gc gz j (xo l l') (.slice a' j cap') l' 4294967295 Y) := by rw [hY]; exact PRow.came HS'.out (by rw [HL'.out]; omega) H256'.out _ (by decide)
          have HRc : Hid (PRow w w1.heap.size gc gz j (xo l l') (.slice (some ⟨gc, 0, none⟩) j j) (xo l l') 4294967295 C) :=
            ⟨fun wx hp => SlAt.of_owns hp.oc, fun _ q hq => by simp [Value.ownBlock] at hq; omega, by omega, fun y hy => by obtain ⟨i, hi⟩ := List.mem_iff_getElem?.1 hy; exact xo_lt l l' H256.out H256'.out i y hi, by decide, hC⟩
          have HRz : Hid (PRow w w1.heap.size gc gz j (xo l l') (.slice (some ⟨gz, 0, none⟩) j j) (List.replicate j 0) 4294967295 O) :=
            ⟨fun wx hp => SlAt.of_owns hp.oz, fun _ q hq => by simp [Value.ownBlock] at hq; omega, by simp; omega, fun y hy => by have := List.eq_of_mem_replicate hy; omega, by decide, hO⟩
          have HR1 : Hid (PRow w w1.heap.size gc gz j (xo l l') (.slice a k cap) (l.take k) 4294967295 X1) := by
            rw [hX1']
            exact PRow.came (HS.out.take k hkN HL.out) (by simp; omega) (fun y hy => H256.out y (List.mem_of_mem_take hy)) _ (by decide)
          clear ho' ho hk HT2 HB2 hoz hoc hxl hX hY hC hO hX1'
          have HSUM : Hid (X = (crc (BitVec.ofNat 32 X1) (l.drop k)).toNat) := by
            show _ = _
            rw [HX1.out, BitVec.ofNat_toNat, BitVec.setWidth_eq, HX.out, ← crc_append, List.take_append_drop]
          obtain ⟨SV, hSV⟩ : ∃ SV, SV = Value.slice (if cap = k then a else a.map (·.add k)) (j - k) (cap - k) := ⟨_, rfl⟩
          have hsl1 : ∀ W : World, (Instr.sliceAt 22 (.slice a j cap) none (some (.int .i64 (k : Int))) none).run Try.prog W = .ok (.slice a k cap) W := by
            intro W
            have h1 : k ≤ cap := by omega
            simp [Instr.sliceAt, Instr.slice, Instr.sliceBounds, Instr.sliceBound, asIntOf, run_underlying Try.underlying22, sizeOf, typeInfo, hi, h1]
            cases a <;> simp [Addr.add]
          have hsl2 : ∀ W : World, (Instr.sliceAt 22 (.slice a j cap) (some (.int .i64 (k : Int))) none none).run Try.prog W = .ok SV W := by
            intro W
            rw [hSV]
            simp [Instr.sliceAt, Instr.slice, Instr.sliceBounds, Instr.sliceBound, asIntOf, run_underlying Try.underlying22, sizeOf, typeInfo, hi, hz1, hkN]
          have HR2 : Hid (PRow w w1.heap.size gc gz j (xo l l') SV (l.drop k) X1 X) := by
            refine ⟨fun wx hp => ?_, fun hne q hq => ?_, by rw [List.length_drop, HL.out]; omega, fun y hy => H256.out y (List.mem_of_mem_drop hy), hX1, HSUM.out⟩
            · rw [hSV]
              by_cases hck : cap = k
              · rw [if_pos hck, List.drop_eq_nil_of_le (by rw [HL.out]; omega)]; exact SlAt.none_of _ _ _ (by omega)
              · rw [if_neg hck]
                cases a with
                | none => have := (HC3.out rfl).2; omega
                | some x => exact (HS.out.below hp.bel).drop k hkN HL.out
            · have hlne : l ≠ [] := fun e => hne (by rw [e]; exact List.drop_nil)
              obtain ⟨bx, ox, rfl⟩ := HS.out.addr hlne
              have h1 := HS.out.lt hlne bx rfl
              have hadd : (⟨bx, ox, none⟩ : Addr).add k = ⟨bx, ox + k, none⟩ := by simp [Addr.add]
              have h2 : bx = q := by
                rw [hSV] at hq
                by_cases hck : cap = k
                · rw [if_pos hck] at hq; cases hq; rfl
                · rw [if_neg hck, Option.map_some, hadd] at hq; cases hq; rfl
              omega
          clear hSV
          go_upto_region 13 with fail
          refine wp_region_class (C := PSt w w1.heap.size gc gz j (xo l l')) (by kernel_rfl) (by kernel_rfl) HP.out ?_
          repeat (first
            | go_big_quiet_skip
            | (go_big_quiet_want; go_big_quiet_op; first
               | go_big_quiet_on
               | (refine ⟨_, fun _ _ => rfl, ?_⟩; go_big_quiet_on)
               | (apply Exists.intro
                  refine ⟨fun wq hq => ?_, ?_⟩
                  · first
                   | (go_at_call_of 19 SV; exact padd hq hbase HR2.out)
                   | (go_at_call_of 11 (Value.slice a k cap); exact psum hq hbase HR1.out)
                   | (go_at_call_of 11 (Value.slice a j cap); exact psum hq hbase HRa.out)
                   | (go_at_call_of 11 (Value.slice a' j cap'); exact psum hq hbase HRb.out)
                   | (go_at_call_of 11 (Value.slice (some ⟨gz, 0, none⟩) j j); exact psum hq hbase HRz.out)
                   | (go_at_call_of 11 (Value.slice (some ⟨gc, 0, none⟩) j j); exact psum hq hbase HRc.out)
                   | (go_at_call 13; exact pwakes hq)
                  go_big_quiet_on)))
          refine wpQuiet_nil ?_
          intro wq hq
          go_wp2
          go_ret
          exact ⟨rfl, hq.bel⟩

end Go.Proofs.Ythcjgcfmodkiiaa
