/- The texts MpLib, MpIn, MpP1, MpP2, MpP3, MpP4, one behind the other. -/
import Derived.Test.YthbophecmpdpdaaDoorPart02
import Derived.Laws.Bits64b
import Derived.Lib.TrailingZeros

/- Two calls of the library's: how many ones a word has; where its lowest one is. -/
namespace Go.Proofs.YthbophecmpdpdaaDoor
set_option linter.unusedVariables false
set_option linter.unusedSimpArgs false
open Go.RowKit Dg

/-- The library's table in its variable. -/
def Tab (w : World) : Prop := ∀ j, j < 64 → w.cell? ⟨0, j, none⟩ = some (.int .u8 ((Lib.deBruijn64tab.getD j 0 : Nat) : Int))
theorem Tab.lt {w : World} (h : Tab w) : 0 < w.heap.size := World.block_lt_of_cell? w _ (h 0 (by decide))
theorem Tab.kept {w w' : World} {F : Nat → Prop} (h : Tab w) (hk : Kept F w w') (hF : ¬ F 0) : Tab w' := fun j hj => by rw [hk.cell h.lt hF]; exact h j hj
theorem Tab.below {w w' : World} {B : Nat} (h : Tab w) (hk : Below B w w') (hB : 0 < B) : Tab w' := fun j hj => by rw [hk.cell (p := ⟨0, j, none⟩) hB]; exact h j hj

theorem ctz_spec {x : Nat} (h0 : x ≠ 0) (h : x < 18446744073709551616) : Lib.ctz 64 x < 64 ∧ x.testBit (Lib.ctz 64 x) = true ∧ ∀ j, j < Lib.ctz 64 x → x.testBit j = false := by
  obtain ⟨m, hm, hk⟩ := Lib.ctzFrom_spec 64 x (by omega) h
  have e : Lib.ctz 64 x = Lib.ctzFrom 64 x := by simp [Lib.ctz, h0]
  rw [e]
  generalize Lib.ctzFrom 64 x = k at hm hk
  refine ⟨hk, ?_, fun j hj => ?_⟩
  · rw [hm, Nat.mul_comm, Nat.testBit_mul_two_pow]
    simp [Nat.testBit_zero]
  · rw [hm, Nat.mul_comm, Nat.testBit_mul_two_pow]
    simp [Nat.not_le.2 hj]

theorem tz_key (x a : Nat) (hx : x < 18446744073709551616) (hx0 : x ≠ 0) (hlow : x &&& (18446744073709551616 - x) = a) :
    IntKind.u64.wrap (bits BinOp.and IntKind.u64 (x : Int) (IntKind.u64.wrap (-(x : Int))) * 285870213051353865) / 288230376151711744 = ((a * 285870213051353865 % 18446744073709551616 / 288230376151711744 : Nat) : Int) := by
  have e1 : IntKind.u64.wrap (-(x : Int)) = ((18446744073709551616 - x : Nat) : Int) := by rw [IntKind.wrap_u64]; omega
  rw [e1, bits_and_u64_nat x _ hx (by omega), hlow, IntKind.wrap_u64]
  omega
set_option maxRecDepth 100000 in
set_option maxHeartbeats 1000000 in
theorem tz_core (x k idx : Nat) (w : World) (hx0 : ((x : Int) == 0) = false)
    (key : IntKind.u64.wrap (bits BinOp.and IntKind.u64 (x : Int) (IntKind.u64.wrap (-(x : Int))) * 285870213051353865) / 288230376151711744 = (idx : Int))
    (hi : idx < 64) (hk : k < 64) (hcell : w.cell? ⟨0, idx, none⟩ = some (.int .u8 k)) :
    Calls Tryd.prog 36 #[.int .u64 x] w fun e w' => e = .returned (.int .i64 k) ∧ w' = w := by
  go_enter Tryd.func36, Tryd.ntmps36
  go_wp2_with (simp only [key])
  go_ret
  exact ⟨rfl, rfl⟩
theorem tz_any (w : World) (hT : Tab w) (x : Nat) (h0 : x ≠ 0) (hx : x < 18446744073709551616) (k : Nat) (hk : k = Lib.ctz 64 x) :
    Calls Tryd.prog 36 #[.int .u64 (x : Int)] w fun e w' => e = .returned (.int .i64 (k : Int)) ∧ w = w' := by
  obtain ⟨hlow, hk64⟩ := Lib.lowest_bit 64 x h0 hx
  obtain ⟨hi, htab⟩ := Lib.deBruijn64_at _ hk64
  have hcell := hT _ hi
  rw [htab] at hcell
  subst hk
  exact (tz_core x _ _ w (by simp; omega) (tz_key x _ hx h0 hlow) hi hk64 hcell).mono fun e w' ⟨h1, h2⟩ => ⟨h1, h2.symm⟩

theorem mod_and (y m n : Nat) (h : m < 2 ^ n) : y % 2 ^ n &&& m = y &&& m := by
  apply Nat.eq_of_testBit_eq
  intro j
  rw [Nat.testBit_and, Nat.testBit_and, Nat.testBit_mod_two_pow]
  by_cases hj : j < n
  · simp [hj]
  · rw [Nat.testBit_lt_two_pow (Nat.lt_of_lt_of_le h (Nat.pow_le_pow_right (by decide) (Nat.le_of_not_lt hj)))]
    simp
theorem mod_and64 (y m : Nat) (h : m < 18446744073709551616) : y % 18446744073709551616 &&& m = y &&& m := mod_and y m 64 h
theorem and_wrap (b c : Nat) (hc : c = pC b) : bits .and .u64 (IntKind.u64.wrap ((b : Int) / 16 + (b : Int))) 1085102592571150095 = (c : Int) := by
  have e1 : IntKind.u64.wrap ((b : Int) / 16 + (b : Int)) = (((b / 16 + b) % 18446744073709551616 : Nat) : Int) := by rw [IntKind.wrap_u64]; omega
  rw [e1, show (1085102592571150095 : Int) = ((1085102592571150095 : Nat) : Int) from rfl, bits_and_u64_nat _ _ (Nat.mod_lt _ (by omega)) (by omega), mod_and64 _ _ (by omega), hc]
  rfl

theorem wrapA (x a : Nat) (hx : x < 18446744073709551616) (ha : a = pA x) (h : a < 18446744073709551616) : IntKind.u64.wrap (bits .and .u64 ((x : Int) / 2) 6148914691236517205 + bits .and .u64 (x : Int) 6148914691236517205) = (a : Int) := by
  have e1 : (x : Int) / 2 = ((x / 2 : Nat) : Int) := by omega
  rw [e1, show (6148914691236517205 : Int) = ((6148914691236517205 : Nat) : Int) from rfl, bits_and_u64_nat _ _ (by omega) (by decide), bits_and_u64_nat _ _ hx (by decide), IntKind.wrap_u64]
  unfold pA at ha
  omega
theorem wrapB (a b : Nat) (hx : a < 18446744073709551616) (hb : b = pB a) (h : b < 18446744073709551616) : IntKind.u64.wrap (bits .and .u64 ((a : Int) / 4) 3689348814741910323 + bits .and .u64 (a : Int) 3689348814741910323) = (b : Int) := by
  have e1 : (a : Int) / 4 = ((a / 4 : Nat) : Int) := by omega
  rw [e1, show (3689348814741910323 : Int) = ((3689348814741910323 : Nat) : Int) from rfl, bits_and_u64_nat _ _ (by omega) (by decide), bits_and_u64_nat _ _ hx (by decide), IntKind.wrap_u64]
  unfold pB at hb
  omega
theorem wrapD (c d : Nat) (h : d = pD c) (hd : d < 18446744073709551616) : IntKind.u64.wrap ((c : Int) + (c : Int) / 256) = (d : Int) := by rw [IntKind.wrap_u64]; unfold pD at h; omega
theorem wrapE (c d : Nat) (h : d = pE c) (hd : d < 18446744073709551616) : IntKind.u64.wrap ((c : Int) + (c : Int) / 65536) = (d : Int) := by rw [IntKind.wrap_u64]; unfold pE at h; omega
theorem wrapF (c d : Nat) (h : d = pF c) (hd : d < 18446744073709551616) : IntKind.u64.wrap ((c : Int) + (c : Int) / 4294967296) = (d : Int) := by rw [IntKind.wrap_u64]; unfold pF at h; omega
theorem wrapG (g n : Nat) (hg : g < 4611686018427387904) (h : g % 128 = n) : bits .and .i64 (wrap64 (g : Int)) 127 = (n : Int) ∧ bits .and .i64 (g : Int) 127 = (n : Int) := by
  have h2 := and_mask g 7 hg (by decide)
  rw [show (2 : Int) ^ 7 - 1 = 127 from rfl, show g % 2 ^ 7 = n from h] at h2
  refine ⟨?_, h2⟩
  rw [Go.IntWalk.wrap64_in (g : Int) (by omega)]
  exact h2
set_option maxRecDepth 100000 in
set_option maxHeartbeats 4000000 in
theorem ones_any (w : World) (x : Nat) (hx : x < 18446744073709551616) (n : Nat) (hn : n = popN x) :
    Calls Tryd.prog 24 #[.int .u64 (x : Int)] w fun e w' => e = .returned (.int .i64 (n : Int)) ∧ w = w' := by
  obtain ⟨b1, b2, b3⟩ := pop_bounds x
  obtain ⟨b4, b5, b6, b7⟩ := pop_end x hx
  rw [← hn] at b7
  clear hn
  obtain ⟨a, ha⟩ : ∃ a, a = pA x := ⟨_, rfl⟩
  rw [← ha] at b1 b2 b3 b4 b5 b6 b7
  obtain ⟨b, hb⟩ : ∃ b, b = pB a := ⟨_, rfl⟩
  rw [← hb] at b2 b3 b4 b5 b6 b7
  obtain ⟨c, hc⟩ : ∃ c, c = pC b := ⟨_, rfl⟩
  rw [← hc] at b3 b4 b5 b6 b7
  obtain ⟨d, hd⟩ : ∃ d, d = pD c := ⟨_, rfl⟩
  rw [← hd] at b4 b5 b6 b7
  obtain ⟨f, hf⟩ : ∃ f, f = pE d := ⟨_, rfl⟩
  rw [← hf] at b5 b6 b7
  obtain ⟨g, hg⟩ : ∃ g, g = pF f := ⟨_, rfl⟩
  rw [← hg] at b6 b7
  obtain ⟨eG, eG2⟩ := wrapG g n b6 b7
  have eA := wrapA x a hx ha b1
  have eB := wrapB a b b1 hb b2
  have eC := and_wrap b c hc
  have eD := wrapD c d hd b4
  have eE := wrapE d f hf b5
  have eF := wrapF f g hg (Nat.lt_trans b6 (by decide))
  clear ha hb hc hd hf hg
  go_enter Tryd.func24, Tryd.ntmps24
  go_wp2_with fail
  go_ret
  exact ⟨rfl, rfl⟩

end Go.Proofs.YthbophecmpdpdaaDoor

/- The program's map in memory; New. -/
namespace Go.Proofs.YthbophecmpdpdaaDoor
set_option linter.unusedVariables false
set_option linter.unusedSimpArgs false
open Go.RowKit Dg

theorem w64s_set (l : List Nat) (k x : Nat) : w64s (l.set k x) = (w64s l).set k (.int .u64 (x : Int)) := by simp [w64s]
theorem ws_cell {w : World} {base g n c : Nat} {l : List Nat} {j x : Nat} (h : w.ownsRow base 35 1 (.slice (some ⟨g, 0, none⟩) n c) n (w64s l)) (hx : l[j]? = some x) :
    w.cell? ⟨g, j, none⟩ = some (.int .u64 (x : Int)) ∧ w.frozen? ⟨g, j, none⟩ = false := by
  have hl : l.length = n := by have := h.1; simpa using this
  have hj : j < l.length := (List.getElem?_eq_some_iff.1 hx).1
  rcases h.2 with ⟨e1, _⟩ | ⟨g', cap', cur, hv, hgb, hh, hncap, _, hcs, htake⟩
  · cases e1
  · cases hv
    refine ⟨?_, by simp [World.frozen?, hh]⟩
    have e : (w64s l)[j]? = some (.int .u64 (x : Int)) := by rw [w64s_get, hx]; rfl
    rw [← htake, List.getElem?_take, if_pos (by omega)] at e
    simp only [World.cell?, hh]
    simpa using e
theorem ws_set {w : World} {base g n c : Nat} {l : List Nat} (h : w.ownsRow base 35 1 (.slice (some ⟨g, 0, none⟩) n c) n (w64s l)) (j y : Nat) (hj : j < n) :
    (w.setCell ⟨g, j, none⟩ (.int .u64 (y : Int))).ownsRow base 35 1 (.slice (some ⟨g, 0, none⟩) n c) n (w64s (l.set j y)) := by
  rw [w64s_set]
  exact ownsRow_set h j hj _
theorem made_w64 (n : Nat) : (madeCells (Value.int .u64 0).cells (n * 1)).toList = w64s (List.replicate n 0) := by
  apply List.ext_getElem?
  intro k
  by_cases hk : k < n
  · simp [madeCells, w64s, hk, Value.cells, Nat.mod_one]
  · rw [List.getElem?_eq_none (by simp [madeCells]; omega), List.getElem?_eq_none (by simp; omega)]
theorem ws_new (w : World) (base : Nat) (Z : Array Value) (N : Nat) (l : List Nat) (hZ : Z.toList = w64s l) (hl : l.length = N) (hN : N ≤ 1000000) (hb : base ≤ w.heap.size) :
    (w.alloc (.cells Z 35)).ownsRow base 35 1 (.slice (some ⟨w.heap.size, 0, none⟩) N N) N (w64s l) := by
  have hs : Z.size = N := by have := congrArg List.length hZ; simpa [hl] using this
  refine ⟨by simp [hl], .inr ⟨w.heap.size, N, Z, rfl, hb, heap_alloc_new w _, Nat.le_refl _, by unfold maxLen; omega, by omega, ?_⟩⟩
  rw [hZ]; exact List.take_of_length_le (by simp [hl])

/-- A map in memory: its fields at b, its words at g. -/
structure MpIs (w : World) (b g c : Nat) (m : List Bool) : Prop where
  box : w.heap[b]? = some (.cells #[.int .i64 (m.length : Int), .slice (some ⟨g, 0, none⟩) (wsOf m).length c] 49 (0, 0))
  ws : w.ownsRow 0 35 1 (.slice (some ⟨g, 0, none⟩) (wsOf m).length c) (wsOf m).length (w64s (wsOf m))
  tab : Tab w
  pos : 1 ≤ m.length
  le : m.length ≤ 4096
  ne : b ≠ g ∧ b ≠ 0 ∧ g ≠ 0
set_option maxRecDepth 100000 in
theorem MpIs.cell {w : World} {b g c : Nat} {m : List Bool} (h : MpIs w b g c m) : w.cell? ⟨b, 0, none⟩ = some (.int .i64 (m.length : Int)) ∧ w.cell? ⟨b, 1, none⟩ = some (.slice (some ⟨g, 0, none⟩) (wsOf m).length c) := by
  have e := h.box
  refine ⟨?_, ?_⟩
  · unfold World.cell?; rw [e]; rfl
  · unfold World.cell?; rw [e]; rfl
theorem MpIs.lt {w : World} {b g c : Nat} {m : List Bool} (h : MpIs w b g c m) : b < w.heap.size ∧ g < w.heap.size := by
  refine ⟨(Array.getElem?_eq_some_iff.1 h.box).1, ?_⟩
  exact (World.ownsRow.lt h.ws g rfl).2
theorem MpIs.kept {w w' : World} {b g c : Nat} {m : List Bool} {X : Nat → Prop} (h : MpIs w b g c m) (hk : Kept X w w') (h1 : ¬ X b) (h2 : ¬ X g) (h3 : ¬ X 0) : MpIs w' b g c m :=
  { h with
    box := by rw [hk.block b h.lt.1 h1]; exact h.box
    ws := ownsRow_other h.ws hk (fun k e => by cases e; exact h2)
    tab := h.tab.kept hk h3 }
theorem MpIs.len {w : World} {b g c : Nat} {m : List Bool} (h : MpIs w b g c m) : (wsOf m).length = (m.length + 63) / 64 ∧ 1 ≤ (wsOf m).length ∧ (wsOf m).length ≤ 64 ∧ m.length ≤ 64 * (wsOf m).length := by
  have h1 := h.pos
  have h2 := h.le
  have := length_wsOf m
  omega
theorem MpIs.word {w : World} {b g c : Nat} {m : List Bool} (h : MpIs w b g c m) {k : Nat} (hk : k < (wsOf m).length) : ∃ x, (wsOf m)[k]? = some x ∧ x < 18446744073709551616 ∧ w.cell? ⟨g, k, none⟩ = some (.int .u64 (x : Int)) ∧ w.frozen? ⟨g, k, none⟩ = false ∧ ∀ j, j < 64 → x.testBit j = dgt m (64 * k + j) := by
  obtain ⟨x, hx⟩ : ∃ x, (wsOf m)[k]? = some x := ⟨_, List.getElem?_eq_getElem hk⟩
  obtain ⟨e1, e2⟩ := ws_cell h.ws hx
  exact ⟨x, hx, (wsOf_is m).lt x (List.mem_of_getElem? hx), e1, e2, (wsOf_is m).bit k x hx⟩

theorem shl_int (r : Nat) (hr : r < 64) : IntKind.u64.wrap (18446744073709551615 * 2 ^ r) = ((18446744073709551616 - 2 ^ r : Nat) : Int) := by
  rw [IntKind.wrap_u64, ← shl_full r hr, ← pow_cast]
  generalize 2 ^ r = P
  omega
set_option maxRecDepth 100000 in
set_option maxHeartbeats 1000000 in
theorem mnoughts_any (w : World) (n : Nat) (h1 : 1 ≤ n) (h2 : n ≤ 4096) (L : Nat) (hL : L = (n + 63) / 64) :
    Calls Tryd.prog 21 #[.int .i64 (n : Int)] w fun e w' => ∃ g, e = .returned (.slice (some ⟨g, 0, none⟩) L L) ∧ w'.ownsRow w.heap.size 35 1 (.slice (some ⟨g, 0, none⟩) L L) L (w64s (noughtsL n)) ∧ Below w.heap.size w w' := by
  obtain ⟨i0, hi, hz0, hz1, hz2⟩ := info_parts Tryd.infoW64
  obtain ⟨Z, hZ⟩ : ∃ Z, Z = madeCells (Value.int .u64 0).cells (L * i0.size) := ⟨_, rfl⟩
  have hmk : ∀ W : World, (Instr.makeSlice 33 (.int .i64 (L : Int)) (.int .i64 (L : Int))).run Tryd.prog W = .ok (.slice (some ⟨W.heap.size, 0, none⟩) L L) (W.alloc (.cells Z 35)) := by
    intro W
    have h := run_make (P := Tryd.prog) W 33 35 i0 (.int .u64 0) Tryd.underlying33 hi hz0 .i64 .i64 L L (by omega) (by omega) (by rw [hz2]; omega) (by omega)
    simp only [Int.toNat_natCast] at h
    rw [hZ]
    exact h
  have hown : ∀ W : World, (W.alloc (.cells Z 35)).ownsRow W.heap.size 35 1 (.slice (some ⟨W.heap.size, 0, none⟩) L L) L (w64s (List.replicate L 0)) := fun W =>
    ws_new W W.heap.size Z L (List.replicate L 0) (by rw [hZ, hz1]; exact made_w64 L) (by simp) (by omega) (Nat.le_refl _)
  have HO := hid_of hown
  have HZ : Hid (Z.toList = w64s (List.replicate L 0)) := by show _ = _; rw [hZ, hz1]; exact made_w64 L
  have hq : ((n : Int) + 64 - 1) / 64 = (L : Int) := by omega
  obtain ⟨r, hr⟩ : ∃ r, r = n % 64 := ⟨_, rfl⟩
  have hrI : (n : Int) % 64 = (r : Int) := by omega
  have HL := hid_of hL
  have HR := hid_of hr
  have hr64 : r < 64 := by omega
  have hL64 : L ≤ 64 := by omega
  clear hZ hown
  by_cases h0 : r = 0
  · have hN : Hid (List.replicate L 0 = noughtsL n) := by
      show _ = _
      unfold noughtsL
      rw [if_pos (by omega), hL]
    clear hL hr
    subst h0
    go_enter Tryd.func21, Tryd.ntmps21
    go_wp2_with fail
    go_ret
    refine ⟨_, rfl, ?_, (Below.refl _ _).alloc (Nat.le_refl _) _⟩
    rw [← hN.out]
    exact HO.out w
  · obtain ⟨M, hM⟩ : ∃ M, L = M + 1 := ⟨L - 1, by omega⟩
    have HM := hid_of hM
    have hN : Hid ((List.replicate L 0).set M (18446744073709551616 - 2 ^ r) = noughtsL n) := by
      show _ = _
      unfold noughtsL
      rw [if_neg (by omega), hr, hM, ← hL, hM]
      rfl
    have hLM : (L : Int) - 1 = (M : Int) := by omega
    have hML : M < L := by omega
    have hr1 : decide (0 < r) = true := decide_eq_true (by omega)
    obtain ⟨F, hF⟩ : ∃ F : Nat, F = 18446744073709551616 - 2 ^ r := ⟨_, rfl⟩
    have HF := hid_of hF
    have hsh : IntKind.u64.wrap (18446744073709551615 * 2 ^ r) = (F : Int) := by rw [hF]; exact shl_int r hr64
    have hZM : Z[M]? = some (.int .u64 0) := by
      have e : Z.toList[M]? = some (.int .u64 0) := by rw [HZ.out, w64s_get, List.getElem?_replicate, if_pos hML]; rfl
      simpa using e
    clear hL hr hM hF
    go_enter Tryd.func21, Tryd.ntmps21
    go_wp2_with fail
    go_ret
    refine ⟨_, rfl, ?_, (Below.refl _ _).alloc (Nat.le_refl _) _⟩
    rw [← hN.out, ← HF.out]
    refine ws_new w w.heap.size _ L _ ?_ (by simp) (by omega) (Nat.le_refl _)
    rw [w64s_set, ← HZ.out]
    simp

end Go.Proofs.YthbophecmpdpdaaDoor

/- The program's map: New, Len, has, Used. -/
namespace Go.Proofs.YthbophecmpdpdaaDoor
set_option linter.unusedVariables false
set_option linter.unusedSimpArgs false
open Go.RowKit Dg

set_option maxRecDepth 100000 in
set_option maxHeartbeats 1000000 in
theorem mnew_any (w : World) (hT : Tab w) (n : Nat) (h1 : 1 ≤ n) (h2 : n ≤ 4096) :
    Calls Tryd.prog 8 #[.int .i64 (n : Int)] w fun e w' => ∃ b g c, e = .returned (.tuple #[.pointer (some ⟨b, 0, none⟩), .int .i64 0]) ∧ MpIs w' b g c (List.replicate n false) ∧ w.heap.size ≤ b ∧ w.heap.size ≤ g ∧ Below w.heap.size w w' := by
  obtain ⟨L, hL⟩ : ∃ L, L = (n + 63) / 64 := ⟨_, rfl⟩
  have HN := hid_of (mnoughts_any w n h1 h2 L hL)
  have HL := hid_of hL
  have HT := hid_of hT
  clear hL hT
  go_enter Tryd.func8, Tryd.ntmps8
  go_wp2_with fail
  refine HN.out.mono ?_
  rintro e w1 ⟨g, rfl, ho, hb⟩
  have HO := hid_of ho
  have HB := hid_of hb
  clear ho hb HN
  go_wp2_with fail
  go_ret2
  have hg := World.ownsRow.lt HO.out g rfl
  have hTl := HT.out.lt
  refine ⟨w1.heap.size, g, L, rfl, ⟨?_, ?_, ?_, by simp; omega, by simp; omega, ?_⟩, HB.out.size, hg.1, HB.out.alloc HB.out.size _⟩
  · rw [heap_alloc_new, List.length_replicate, ← (noughts_is n).of, (noughts_is n).len, List.length_replicate, ← HL.out]
  · rw [← (noughts_is n).of, (noughts_is n).len, List.length_replicate, ← HL.out]
    exact ownsRow_base (World.ownsRow.alloc HO.out _) (Nat.zero_le _)
  · exact (HT.out.below HB.out hTl).kept (Kept.alloc (fun _ => False) _ _) (fun h => h)
  · have := HB.out.size
    exact ⟨by omega, by omega, by omega⟩
set_option maxRecDepth 100000 in
set_option maxHeartbeats 1000000 in
theorem mnew_no (w : World) (n : Int) (h : n < 1 ∨ 4096 < n) :
    Calls Tryd.prog 8 #[.int .i64 n] w fun e w' => e = .returned (.tuple #[.pointer none, .int .i64 1]) ∧ w = w' := by
  rcases (by omega : n < 1 ∨ (1 ≤ n ∧ 4096 < n)) with h | ⟨h0, h⟩
  · go_enter Tryd.func8, Tryd.ntmps8
    go_wp2_with fail
    go_ret2
    exact ⟨rfl, rfl⟩
  · go_enter Tryd.func8, Tryd.ntmps8
    go_wp2_with fail
    go_ret2
    exact ⟨rfl, rfl⟩
set_option maxRecDepth 100000 in
set_option maxHeartbeats 1000000 in
theorem mlen_is (w : World) (b g c : Nat) (m : List Bool) (h : MpIs w b g c m) (n : Nat) (hn : n = m.length) :
    Calls Tryd.prog 29 #[.pointer (some ⟨b, 0, none⟩)] w fun e w' => e = .returned (.int .i64 (n : Int)) ∧ w = w' := by
  obtain ⟨c0, -⟩ := h.cell
  rw [← hn] at c0
  clear h hn
  go_enter Tryd.func29, Tryd.ntmps29
  go_wp2
  go_ret
  exact ⟨rfl, rfl⟩
set_option maxRecDepth 100000 in
set_option maxHeartbeats 1000000 in
theorem mhas_is (w : World) (b g c : Nat) (m : List Bool) (h : MpIs w b g c m) (i : Int) (hi : I64 i) (R : Bool) (hR : R = decide (0 ≤ i ∧ i < (m.length : Int))) :
    Calls Tryd.prog 23 #[.pointer (some ⟨b, 0, none⟩), .int .i64 i] w fun e w' => e = .returned (.bool R) ∧ w = w' := by
  obtain ⟨c0, -⟩ := h.cell
  obtain ⟨n, hn⟩ : ∃ n, n = m.length := ⟨_, rfl⟩
  obtain ⟨hi1, hi2⟩ := hi
  rw [← hn] at c0 hR
  clear h hn
  rcases (by omega : i < 0 ∨ (0 ≤ i ∧ i < (n : Int)) ∨ (0 ≤ i ∧ (n : Int) ≤ i)) with h1 | ⟨h1, h2⟩ | ⟨h1, h2⟩
  · obtain rfl : R = false := by rw [hR]; exact decide_eq_false (by omega)
    clear hR
    go_enter Tryd.func23, Tryd.ntmps23
    go_wp2_with fail
    go_ret
    exact ⟨rfl, rfl⟩
  · obtain rfl : R = true := by rw [hR]; exact decide_eq_true (by omega)
    clear hR
    go_enter Tryd.func23, Tryd.ntmps23
    go_wp2_with fail
    go_ret
    exact ⟨rfl, rfl⟩
  · obtain rfl : R = false := by rw [hR]; exact decide_eq_false (by omega)
    have hb : decide (i < (n : Int)) = false := decide_eq_false (by omega)
    clear hR
    go_enter Tryd.func23, Tryd.ntmps23
    go_wp2_with fail
    go_ret
    exact ⟨rfl, rfl⟩
/-- Is it used? (One that is not there is.) -/
def usedZ (m : List Bool) (i : Int) : Bool := if 0 ≤ i then dgt m i.toNat else true
theorem usedZ_nat (m : List Bool) (k : Nat) : usedZ m (k : Int) = dgt m k := by unfold usedZ; rw [if_pos (by omega), Int.toNat_natCast]
theorem bit_int (x r : Nat) (hx : x < 18446744073709551616) : bits .and .u64 ((x : Int) / 2 ^ r) 1 = (((x.testBit r).toNat : Nat) : Int) := by
  have e : (x : Int) / 2 ^ r = ((x / 2 ^ r : Nat) : Int) := by rw [← pow_cast]; rfl
  have hlt : x / 2 ^ r < 18446744073709551616 := Nat.lt_of_le_of_lt (Nat.div_le_self _ _) hx
  have h2 := bits_and_u64_nat (x / 2 ^ r) 1 hlt (by decide)
  rw [e]
  refine h2.trans ?_
  rw [Nat.testBit_eq_decide_div_mod_eq, show (1 : Nat) = 2 ^ 1 - 1 from rfl, Nat.and_two_pow_sub_one_eq_mod]
  generalize x / 2 ^ r = y
  by_cases h : y % 2 = 1
  · simp [h]
  · have : y % 2 = 0 := by omega
    simp [this]
set_option maxRecDepth 100000 in
set_option maxHeartbeats 1000000 in
theorem mused_is (w : World) (b g c : Nat) (m : List Bool) (h : MpIs w b g c m) (i : Int) (hi : I64 i) (R : Bool) (hR : R = usedZ m i) :
    Calls Tryd.prog 16 #[.pointer (some ⟨b, 0, none⟩), .int .i64 i] w fun e w' => e = .returned (.bool R) ∧ w = w' := by
  have HH := hid_of (mhas_is w b g c m h i hi _ rfl)
  obtain ⟨-, c1⟩ := h.cell
  obtain ⟨hi1, hi2⟩ := hi
  by_cases hin : 0 ≤ i ∧ i < (m.length : Int)
  · obtain ⟨k, rfl⟩ : ∃ k : Nat, i = (k : Int) := ⟨i.toNat, by omega⟩
    have hlen := h.len
    rw [decide_eq_true hin] at HH
    obtain ⟨q, hq⟩ : ∃ q, q = k / 64 := ⟨_, rfl⟩
    obtain ⟨r, hr⟩ : ∃ r, r = k % 64 := ⟨_, rfl⟩
    obtain ⟨L, hL⟩ : ∃ L, L = (wsOf m).length := ⟨_, rfl⟩
    have hqL : q < L := by omega
    obtain ⟨x, -, hx, hc, -, hb⟩ := h.word (k := q) (by omega)
    have hbit := hb r (by omega)
    rw [show 64 * q + r = k by omega] at hbit
    have hR' : R = x.testBit r := by rw [hR, usedZ_nat, hbit]
    have hbi := bit_int x r hx
    have hqI : (k : Int) / 64 = (q : Int) := by omega
    have hrI : (k : Int) % 64 = (r : Int) := by omega
    have hr64 : r < 64 := by omega
    rw [← hL] at c1
    cases hxb : x.testBit r
    · rw [hxb] at hbi hR'
      change _ = (0 : Int) at hbi
      subst hR'
      clear h hR hin hlen hq hr hL hb hbit hxb
      go_enter Tryd.func16, Tryd.ntmps16
      go_wp2_with fail
      refine HH.out.mono ?_
      rintro e w1 ⟨rfl, rfl⟩
      go_wp2_with fail
      go_ret
      exact ⟨rfl, rfl⟩
    · rw [hxb] at hbi hR'
      change _ = (1 : Int) at hbi
      subst hR'
      clear h hR hin hlen hq hr hL hb hbit hxb
      go_enter Tryd.func16, Tryd.ntmps16
      go_wp2_with fail
      refine HH.out.mono ?_
      rintro e w1 ⟨rfl, rfl⟩
      go_wp2_with fail
      go_ret
      exact ⟨rfl, rfl⟩
  · obtain rfl : R = true := by
      rw [hR]
      unfold usedZ
      split
      · exact dgt_behind (by omega)
      · rfl
    rw [decide_eq_false hin] at HH
    clear h hR hin
    go_enter Tryd.func16, Tryd.ntmps16
    go_wp2_with fail
    refine HH.out.mono ?_
    rintro e w1 ⟨rfl, rfl⟩
    go_wp2_with fail
    go_ret
    exact ⟨rfl, rfl⟩

end Go.Proofs.YthbophecmpdpdaaDoor

/- The program's map: Set, Count. -/
namespace Go.Proofs.YthbophecmpdpdaaDoor
set_option linter.unusedVariables false
set_option linter.unusedSimpArgs false
open Go.RowKit Dg

/-- Does Set do it? -/
def setsB (m : List Bool) (i : Int) (u : Bool) : Bool := decide (0 ≤ i ∧ i < (m.length : Int)) && (usedZ m i != u)
def setM (m : List Bool) (i : Int) (u : Bool) : List Bool := if setsB m i u then m.set i.toNat u else m
theorem length_setM (m : List Bool) (i : Int) (u : Bool) : (setM m i u).length = m.length := by
  unfold setM
  split
  · rw [List.length_set]
  · rfl
theorem bits_xor_u64_nat (a b : Nat) (ha : a < 18446744073709551616) (hb : b < 18446744073709551616) :
    bits .xor .u64 (a : Int) (b : Int) = ((a ^^^ b : Nat) : Int) := by
  have hx : a ^^^ b < 2 ^ 64 := Nat.xor_lt_two_pow (by omega) (by omega)
  have h1 : (BitVec.ofInt 64 (a : Int)).toNat = a := by
    rw [BitVec.ofInt_natCast, BitVec.toNat_ofNat]; exact Nat.mod_eq_of_lt (by omega)
  have h2 : (BitVec.ofInt 64 (b : Int)).toNat = b := by
    rw [BitVec.ofInt_natCast, BitVec.toNat_ofNat]; exact Nat.mod_eq_of_lt (by omega)
  show IntKind.u64.wrap ((BitVec.ofInt 64 (a : Int) ^^^ BitVec.ofInt 64 (b : Int)).toNat : Int) = _
  rw [BitVec.toNat_xor, h1, h2, IntKind.wrap_u64]
  omega
theorem pow_int (r : Nat) (hr : r < 64) : IntKind.u64.wrap (2 ^ r) = ((2 ^ r : Nat) : Int) ∧ IntKind.u64.wrap (1 * 2 ^ r) = ((2 ^ r : Nat) : Int) := by
  have h2 : 2 ^ r < 2 ^ 64 := Nat.pow_lt_pow_right (by decide) hr
  rw [Int.one_mul, ← pow_cast]
  generalize 2 ^ r = P at h2
  have : IntKind.u64.wrap (P : Int) = (P : Int) := by rw [IntKind.wrap_u64]; omega
  exact ⟨this, this⟩
/-- The box is as it was, a word is turned. -/
theorem MpIs.set {w : World} {b g c : Nat} {m : List Bool} (h : MpIs w b g c m) {i : Nat} {u : Bool} (hi : m[i]? = some (!u)) {x : Nat} (hx : (wsOf m)[i / 64]? = some x) :
    MpIs (w.setCell ⟨g, i / 64, none⟩ (.int .u64 ((x ^^^ 2 ^ (i % 64) : Nat) : Int))) b g c (m.set i u) := by
  have hk : Kept (fun k => k = g) w (w.setCell ⟨g, i / 64, none⟩ (.int .u64 ((x ^^^ 2 ^ (i % 64) : Nat) : Int))) := Kept.setCell _ _ _ rfl
  have ht := ((wsOf_is m).turn hi hx).of
  rw [Bool.not_not] at ht
  have hlen : (wsOf (m.set i u)).length = (wsOf m).length := by rw [← ht, List.length_set]
  refine ⟨?_, ?_, h.tab.kept hk (fun e => h.ne.2.2 e.symm), by rw [List.length_set]; exact h.pos, by rw [List.length_set]; exact h.le, h.ne⟩
  · rw [hk.block b h.lt.1 h.ne.1, hlen, List.length_set]
    exact h.box
  · rw [hlen, ← ht]
    exact ws_set h.ws _ _ (List.getElem?_eq_some_iff.1 hx).1
set_option maxRecDepth 100000 in
set_option maxHeartbeats 4000000 in
theorem mset_is (w : World) (b g c : Nat) (m : List Bool) (h : MpIs w b g c m) (i : Int) (hi : I64 i) (u : Bool) (R : Bool) (hR : R = setsB m i u) (m2 : List Bool) (hm2 : m2 = setM m i u) :
    Calls Tryd.prog 12 #[.pointer (some ⟨b, 0, none⟩), .int .i64 i, .bool u] w fun e w' => e = .returned (.bool R) ∧ MpIs w' b g c m2 ∧ Kept (fun k => k = g) w w' := by
  have HH := hid_of (mhas_is w b g c m h i hi _ rfl)
  have HU := hid_of (mused_is w b g c m h i hi _ rfl)
  obtain ⟨-, c1⟩ := h.cell
  obtain ⟨hi1, hi2⟩ := hi
  have H0 := hid_of h
  by_cases hin : 0 ≤ i ∧ i < (m.length : Int)
  · obtain ⟨k, rfl⟩ : ∃ k : Nat, i = (k : Int) := ⟨i.toNat, by omega⟩
    have hlen := h.len
    rw [decide_eq_true hin] at HH
    rw [usedZ_nat] at HU
    obtain ⟨y, hy⟩ : ∃ y, m[k]? = some y := ⟨_, List.getElem?_eq_getElem (by omega)⟩
    have hdy : dgt m k = y := by unfold dgt; rw [hy]; rfl
    rw [hdy] at HU
    have hs : setsB m (k : Int) u = (y != u) := by unfold setsB; rw [decide_eq_true hin, usedZ_nat, hdy, Bool.true_and]
    unfold setM at hm2
    rw [hs, Int.toNat_natCast] at hm2
    rw [hs] at hR
    by_cases hyu : y = u
    · subst hyu
      obtain rfl : R = false := by rw [hR]; simp
      obtain rfl : m2 = m := by rw [hm2]; simp
      have hyy : (y == y) = true := by simp
      clear hR hm2 hs hin hlen hy hdy h
      go_enter Tryd.func12, Tryd.ntmps12
      go_wp2_with (first
        | (go_at_call 23; refine HH.out.mono ?_; rintro e w1 ⟨rfl, rfl⟩)
        | (go_at_call 16; refine HU.out.mono ?_; rintro e w1 ⟨rfl, rfl⟩))
      go_ret
      exact ⟨rfl, H0.out, Kept.refl _ _⟩
    · obtain rfl : y = !u := by cases y <;> cases u <;> simp_all
      obtain rfl : R = true := by rw [hR]; cases u <;> rfl
      have hm2' : m2 = m.set k u := by rw [hm2]; cases u <;> rfl
      obtain ⟨q, hq⟩ : ∃ q, q = k / 64 := ⟨_, rfl⟩
      obtain ⟨r, hr⟩ : ∃ r, r = k % 64 := ⟨_, rfl⟩
      obtain ⟨L, hL⟩ : ∃ L, L = (wsOf m).length := ⟨_, rfl⟩
      have hqL : q < L := by omega
      obtain ⟨x, hxw, hx, hc, hfz, -⟩ := h.word (k := q) (by omega)
      have hr64 : r < 64 := by omega
      obtain ⟨P, hP⟩ : ∃ P : Nat, P = 2 ^ r := ⟨_, rfl⟩
      obtain ⟨hp1, hp2⟩ := pow_int r hr64
      rw [← hP] at hp1 hp2
      have hP64 : P < 18446744073709551616 := by rw [hP]; exact Nat.pow_lt_pow_right (by decide) hr64
      obtain ⟨z, hz⟩ : ∃ z, z = x ^^^ P := ⟨_, rfl⟩
      have hxor := bits_xor_u64_nat x P hx hP64
      rw [← hz] at hxor
      have HE : Hid (MpIs (w.drew.setCell ⟨g, q, none⟩ (.int .u64 (z : Int))) b g c m2) := by
        have hd : MpIs w.drew b g c m := h.kept (X := fun _ => False) (Kept.refl _ _).drew (fun h => h) (fun h => h) (fun h => h)
        have := hd.set hy (x := x) (by rw [← hq]; exact hxw)
        rw [← hq, ← hr, ← hP, ← hz, ← hm2'] at this
        exact this
      have HK : Hid (Kept (fun k => k = g) w (w.drew.setCell ⟨g, q, none⟩ (.int .u64 (z : Int)))) := (Kept.refl _ _).drew.trans (Kept.setCell _ _ _ rfl)
      have hqI : (k : Int) / 64 = (q : Int) := by omega
      have hrI : (k : Int) % 64 = (r : Int) := by omega
      have hne : ((!u) == u) = false := by cases u <;> rfl
      rw [← hL] at c1
      clear hR hm2 hs hin hlen hy hdy h hm2' hq hr hL hxw hP hz hyu
      go_enter Tryd.func12, Tryd.ntmps12
      go_wp2_with (first
        | (go_at_call 23; refine HH.out.mono ?_; rintro e w1 ⟨rfl, rfl⟩)
        | (go_at_call 16; refine HU.out.mono ?_; rintro e w1 ⟨rfl, rfl⟩))
      go_region
      all_goals
        go_wp2_with fail
        go_ret
        exact ⟨rfl, HE.out, HK.out⟩
  · have hs : setsB m i u = false := by unfold setsB; rw [decide_eq_false hin]; rfl
    unfold setM at hm2
    rw [hs] at hm2 hR
    change m2 = m at hm2
    subst hm2
    subst hR
    rw [decide_eq_false hin] at HH
    clear hs hin h HU
    go_enter Tryd.func12, Tryd.ntmps12
    go_wp2_with fail
    refine HH.out.mono ?_
    rintro e w1 ⟨rfl, rfl⟩
    go_wp2_with fail
    go_ret
    exact ⟨rfl, H0.out, Kept.refl _ _⟩

set_option maxRecDepth 100000 in
set_option maxHeartbeats 4000000 in
theorem mcount_is (w : World) (b g c : Nat) (m : List Bool) (h : MpIs w b g c m) (x : Nat) (hx : x = usedN m m.length) :
    Calls Tryd.prog 13 #[.pointer (some ⟨b, 0, none⟩)] w fun e w' => e = .returned (.int .i64 (x : Int)) ∧ ∃ k, w' = w.drewN k := by
  obtain ⟨c0, c1⟩ := h.cell
  have hlen := h.len
  have hle := h.le
  have hall := popL_all (wsOf_is m)
  rw [← hx] at hall
  obtain ⟨l, hl⟩ : ∃ l, l = wsOf m := ⟨_, rfl⟩
  have HW : Hid (∀ k, k < l.length → ∃ x, l[k]? = some x ∧ x < 18446744073709551616 ∧ w.cell? ⟨g, k, none⟩ = some (.int .u64 (x : Int))) := fun k hk => by
    obtain ⟨x, e1, e2, e3, -⟩ := h.word (k := k) (by rw [← hl]; exact hk)
    exact ⟨x, by rw [hl]; exact e1, e2, e3⟩
  rw [← hl] at c1 hall hlen
  obtain ⟨L, hL⟩ : ∃ L, L = l.length := ⟨_, rfl⟩
  rw [← hL] at c1 hall hlen
  obtain ⟨n, hn⟩ : ∃ n, n = m.length := ⟨_, rfl⟩
  rw [← hn] at c0 hall hlen hle
  have HL := hid_of hL
  have HA := hid_of hall
  obtain ⟨-, hl1, hl2, hl3⟩ := hlen
  clear h hx hl hL hn hall
  go_enter Tryd.func13, Tryd.ntmps13
  go_wp2_with fail
  go_quiet (fail)
  go_wp2_with fail
  go_loopw [3, 5, 22] (fun v _ i wr => ∃ (k : Nat) (d : Int), k ≤ L ∧ v = .int .i64 d ∧ i = .int .i64 (k : Int) ∧ Hid (d = (n : Int) - 64 * (L : Int) + (popL l k : Nat)) ∧ -4096 ≤ d ∧ d ≤ 8192 ∧ wr = w.drewN nq) (fun _ _ i _ => L - (intOf i).toNat)
  case atStart => exact ⟨0, _, Nat.zero_le _, rfl, rfl, by show _ = (n : Int) - 64 * (L : Int) + ((0 : Nat) : Int); omega, by omega, by omega, rfl⟩
  case round =>
    obtain ⟨k, d, hk, rfl, rfl, hd, hd1, hd2, rfl⟩ := hrel
    by_cases hkL : k < L
    · obtain ⟨y, hy, hy2, hy3⟩ := HW.out k (by rw [← HL.out]; exact hkL)
      obtain ⟨p, hp⟩ : ∃ p, p = popN y := ⟨_, rfl⟩
      have hp64 : p ≤ 64 := by rw [hp]; exact popN_le y
      have HP := hid_of (ones_any (w.drewN nq) y hy2 p hp)
      have HNX : Hid (d + (p : Int) = (n : Int) - 64 * (L : Int) + (popL l (k + 1) : Nat)) := by
        show _ = _
        have e : popL l (k + 1) = popL l k + p := by
          show popL l k + popN (l.getD k 0) = _
          rw [List.getD_eq_getElem?_getD, hy, hp]; rfl
        have := hd.out
        rw [e]; omega
      have hdb : d + (p : Int) ≤ 8192 := by
        have h1 := HNX.out
        have h2 : popL l (k + 1) ≤ 64 * (k + 1) := by
          clear h1 HNX hd HP
          generalize k + 1 = j
          induction j with
          | zero => exact Nat.le_refl _
          | succ j ih =>
            show popL l j + popN (l.getD j 0) ≤ _
            have := popN_le (l.getD j 0)
            omega
        omega
      clear hy hp hd
      go_wp2_with (go_at_call 24; refine HP.out.mono ?_; rintro e w1 ⟨rfl, rfl⟩)
      refine ⟨?_, by (simp [intOf]) <;> omega⟩
      first
        | exact ⟨k + 1, d + (p : Int), by omega, by go_num, by go_num, HNX, by omega, hdb, by first | rfl | trivial⟩
        | ((repeat apply Exists.intro); exact ⟨k + 1, d + (p : Int), by omega, by go_num, by go_num, HNX, by omega, hdb, by first | rfl | trivial⟩)
    · obtain rfl : k = L := by omega
      obtain rfl : d = (x : Int) := by have h1 := hd.out; have h2 := HA.out; omega
      clear hd
      go_wp2_with fail
      go_ret
      exact ⟨rfl, nq, rfl⟩

end Go.Proofs.YthbophecmpdpdaaDoor

/- The program's map: seek. -/
namespace Go.Proofs.YthbophecmpdpdaaDoor
set_option linter.unusedVariables false
set_option linter.unusedSimpArgs false
open Go.RowKit Dg

/-- A word of which the digits asked for are ones, from r on. -/
def askW (x r : Nat) (u : Bool) : Nat := (if u then x else 18446744073709551615 - x) &&& (18446744073709551616 - 2 ^ r)
theorem not64_bit (x j : Nat) (hx : x < 18446744073709551616) (hj : j < 64) : (18446744073709551615 - x).testBit j = !(x.testBit j) := by
  have e : 18446744073709551615 - x = 2 ^ 64 - (x + 1) := by omega
  rw [e, Nat.testBit_two_pow_sub_succ (by omega)]
  simp [hj]
theorem askW_bit (x r : Nat) (u : Bool) (hx : x < 18446744073709551616) (hr : r < 64) (j : Nat) (hj : j < 64) : (askW x r u).testBit j = (decide (r ≤ j) && (x.testBit j == u)) := by
  unfold askW
  rw [Nat.testBit_and, full_bit r j hr hj]
  cases u
  · rw [if_neg (by decide), not64_bit x j hx hj]
    cases x.testBit j <;> cases decide (r ≤ j) <;> rfl
  · rw [if_pos rfl]
    cases x.testBit j <;> cases decide (r ≤ j) <;> rfl
theorem askW_lt (x r : Nat) (u : Bool) (hx : x < 18446744073709551616) : askW x r u < 18446744073709551616 := by
  unfold askW
  refine Nat.and_lt_two_pow (n := 64) _ ?_
  have : 1 ≤ 2 ^ r := Nat.one_le_two_pow
  omega
theorem askW_zero (x r : Nat) (u : Bool) (hx : x < 18446744073709551616) (hr : r < 64) (h : askW x r u = 0) : ∀ j, r ≤ j → j < 64 → x.testBit j ≠ u := by
  intro j h1 h2 e
  have h3 := askW_bit x r u hx hr j h2
  rw [h, Nat.zero_testBit, decide_eq_true h1, e] at h3
  simp at h3
/-- The words are one behind the other: the seek goes on. -/
theorem seek_hit {m : List Bool} {L f k x r : Nat} {u : Bool} (hb : ∀ j, j < 64 → x.testBit j = dgt m (64 * k + j)) (hx : x < 18446744073709551616) (hkL : k < L) (hr : r < 64) (hrf : r = if k = f / 64 then f % 64 else 0) (hkf : f / 64 ≤ k)
    (hlo : ∀ j, f ≤ j → j < 64 * k → dgt m j ≠ u) (h0 : askW x r u ≠ 0) : IsSeek m (64 * L) f u (64 * k + Lib.ctz 64 (askW x r u)) := by
  obtain ⟨h1, h2, h3⟩ := ctz_spec h0 (askW_lt x r u hx)
  generalize Lib.ctz 64 (askW x r u) = z at h1 h2 h3
  have hz := askW_bit x r u hx hr z h1
  rw [h2] at hz
  have hzr : r ≤ z := by
    by_cases e : r ≤ z
    · exact e
    · rw [decide_eq_false e] at hz; cases hz
  have hzu : x.testBit z = u := by
    rw [decide_eq_true hzr, Bool.true_and] at hz
    exact eq_of_beq hz.symm
  refine ⟨.inl ⟨?_, by omega, by rw [← hb z h1]; exact hzu⟩, fun j g1 g2 _ => ?_⟩
  · split at hrf <;> omega
  · by_cases e : j < 64 * k
    · exact hlo j g1 e
    · have hj : 64 * k + (j - 64 * k) = j := by omega
      have g3 := h3 (j - 64 * k) (by omega)
      rw [askW_bit x r u hx hr _ (by omega), hb _ (by omega), hj] at g3
      intro e2
      rw [e2] at g3
      have : r ≤ j - 64 * k := by split at hrf <;> omega
      rw [decide_eq_true this] at g3
      simp at g3
theorem seek_next {m : List Bool} {f k x r : Nat} {u : Bool} (hb : ∀ j, j < 64 → x.testBit j = dgt m (64 * k + j)) (hx : x < 18446744073709551616) (hr : r < 64) (hrf : r = if k = f / 64 then f % 64 else 0) (hkf : f / 64 ≤ k)
    (hlo : ∀ j, f ≤ j → j < 64 * k → dgt m j ≠ u) (h0 : askW x r u = 0) : ∀ j, f ≤ j → j < 64 * (k + 1) → dgt m j ≠ u := by
  intro j g1 g2
  by_cases e : j < 64 * k
  · exact hlo j g1 e
  · have hj : 64 * k + (j - 64 * k) = j := by omega
    have g3 := askW_zero x r u hx hr h0 (j - 64 * k) (by split at hrf <;> omega) (by omega)
    rw [hb _ (by omega), hj] at g3
    exact g3
theorem ask_int (x r : Nat) (hx : x < 18446744073709551616) (hr : r < 64) : bits .and .u64 (x : Int) (IntKind.u64.wrap (18446744073709551615 * 2 ^ r)) = (((x &&& (18446744073709551616 - 2 ^ r)) : Nat) : Int) := by
  rw [shl_int r hr]
  have : 1 ≤ 2 ^ r := Nat.one_le_two_pow
  exact bits_and_u64_nat x _ hx (by omega)
theorem ask_all (x : Nat) (hx : x < 18446744073709551616) : x &&& (18446744073709551616 - 2 ^ 0) = x := by
  have : 18446744073709551616 - 2 ^ 0 = 2 ^ 64 - 1 := by decide
  rw [this, Nat.and_two_pow_sub_one_eq_mod]
  exact Nat.mod_eq_of_lt hx
theorem not_int (x : Nat) (hx : x < 18446744073709551616) : bits BinOp.xor IntKind.u64 IntKind.u64.max (x : Int) = ((18446744073709551615 - x : Nat) : Int) := by
  have e : IntKind.u64.max = ((18446744073709551615 : Nat) : Int) := by decide
  rw [e, bits_xor_u64_nat _ _ (by decide) hx]
  congr 1
  refine eq_of_bits64 (Nat.xor_lt_two_pow (n := 64) (by decide) hx) (by omega) fun j hj => ?_
  rw [not64_bit x j hx hj, Nat.testBit_xor, show (18446744073709551615 : Nat) = 2 ^ 64 - 1 from by decide, Nat.testBit_two_pow_sub_one]
  simp [hj]
set_option maxRecDepth 100000 in
set_option maxHeartbeats 4000000 in
theorem mseek_is (w : World) (b g c : Nat) (m : List Bool) (h : MpIs w b g c m) (f : Nat) (hf : (f : Int) ≤ 9223372036854775807) (u : Bool) (N : Nat) (hN : N = 64 * (wsOf m).length) :
    Calls Tryd.prog 22 #[.pointer (some ⟨b, 0, none⟩), .int .i64 (f : Int), .bool u] w fun e w' => ∃ r : Nat, e = .returned (.int .i64 (r : Int)) ∧ IsSeek m N f u r ∧ w = w' := by
  obtain ⟨-, c1⟩ := h.cell
  have hlen := h.len
  have hle := h.le
  have HT := hid_of h.tab
  have HW : Hid (∀ k, k < (wsOf m).length → ∃ x : Nat, x < 18446744073709551616 ∧ w.cell? ⟨g, k, none⟩ = some (.int .u64 (x : Int)) ∧ ∀ j, j < 64 → x.testBit j = dgt m (64 * k + j)) := fun k hk => by
    obtain ⟨x, e1, e2, e3, -, e5⟩ := h.word hk
    exact ⟨x, e2, e3, e5⟩
  obtain ⟨L, hL⟩ : ∃ L, L = (wsOf m).length := ⟨_, rfl⟩
  rw [← hL] at c1 HW hlen hN
  obtain ⟨-, hl1, hl2, hl3⟩ := hlen
  obtain ⟨F, hF⟩ : ∃ F, F = f / 64 := ⟨_, rfl⟩
  obtain ⟨r, hr⟩ : ∃ r, r = f % 64 := ⟨_, rfl⟩
  have hFI : (f : Int) / 64 = (F : Int) := by omega
  have hrI : (f : Int) % 64 = (r : Int) := by omega
  have hr64 : r < 64 := by omega
  have HF := hid_of hF
  have HR := hid_of hr
  have HN := hid_of hN
  have hFb : F ≤ 144115188075855872 := by omega
  clear h hL hF hr hN
  go_enter Tryd.func22, Tryd.ntmps22
  go_wp2_with fail
  go_loopw [8, 9] (fun v _ wr => ∃ k : Nat, F ≤ k ∧ v = .int .i64 (k : Int) ∧ k ≤ 144115188075855872 ∧ Hid (∀ j, f ≤ j → j < 64 * k → dgt m j ≠ u) ∧ wr = w) (fun v _ _ => L - (intOf v).toNat)
  case atStart => exact ⟨F, Nat.le_refl _, rfl, hFb, fun j h1 h2 => by have := HF.out; omega, rfl⟩
  case round =>
    obtain ⟨k, hFk, rfl, hkb, hlo, rfl⟩ := hrel
    by_cases hkL : k < L
    · obtain ⟨x, hx, hc, hb⟩ := HW.out k hkL
      obtain ⟨rr, hrr⟩ : ∃ rr, rr = if k = f / 64 then f % 64 else 0 := ⟨_, rfl⟩
      have hrr64 : rr < 64 := by rw [hrr]; split <;> omega
      obtain ⟨y, hy⟩ : ∃ y, y = askW x rr u := ⟨_, rfl⟩
      have hFk2 : f / 64 ≤ k := by rw [← HF.out]; exact hFk
      have hfin : y = 0 → Hid (∀ j, f ≤ j → j < 64 * (k + 1) → dgt m j ≠ u) := fun e => seek_next hb hx hrr64 hrr hFk2 hlo.out (by rw [← hy]; exact e)
      have hhit : y ≠ 0 → Hid (IsSeek m N f u (64 * k + Lib.ctz 64 y)) := fun e => by
        show IsSeek _ _ _ _ _
        rw [HN.out, hy]
        exact seek_hit hb hx hkL hrr64 hrr hFk2 hlo.out (by rw [← hy]; exact e)
      have hy64 : y < 18446744073709551616 := by rw [hy]; exact askW_lt x rr u hx
      obtain ⟨z, hz⟩ : ∃ z, z = if u then x else 18446744073709551615 - x := ⟨_, rfl⟩
      have hz64 : z < 18446744073709551616 := by rw [hz]; split <;> omega
      have hyz : y = z &&& (18446744073709551616 - 2 ^ rr) := by rw [hy, hz]; rfl
      have hnot : u = false → bits BinOp.xor IntKind.u64 IntKind.u64.max (x : Int) = (z : Int) ∧ bits BinOp.xor IntKind.u64 (if IntKind.u64.signed = true then -1 else IntKind.u64.max) (x : Int) = (z : Int) := fun e => by
        rw [hz, if_neg (by rw [e]; decide), if_neg (by decide)]; exact ⟨not_int x hx, not_int x hx⟩
      have hzx : u = true → z = x := fun e => by rw [hz, if_pos e]
      have hway : (((k : Int) == (F : Int)) = true ∧ bits BinOp.and IntKind.u64 (z : Int) (IntKind.u64.wrap (18446744073709551615 * 2 ^ r)) = (y : Int)) ∨ (((k : Int) == (F : Int)) = false ∧ z = y) := by
        by_cases e : k = F
        · have e2 : rr = r := by rw [hrr, if_pos (by rw [← HF.out]; exact e), HR.out]
          exact .inl ⟨beq_iff_eq.2 (by omega), by rw [hyz, e2]; exact ask_int z r hz64 hr64⟩
        · have e2 : rr = 0 := by rw [hrr, if_neg (by rw [← HF.out]; exact e)]
          exact .inr ⟨beq_eq_false_iff_ne.2 (by omega), by rw [hyz, e2]; exact (ask_all z hz64).symm⟩
      clear hrr hrr64 hy hFk2 hz hz64 hyz hb
      obtain ⟨t, ht⟩ : ∃ t, t = Lib.ctz 64 y := ⟨_, rfl⟩
      by_cases hy0 : y = 0
      · have HN1 := hfin hy0
        have hyb : ((y : Int) != 0) = false := by rw [hy0]; rfl
        have hyb2 : ((y : Int) == 0) = true := by rw [hy0]; rfl
        clear hfin hhit hy0 ht
        rcases hway with ⟨hkb2, hand⟩ | ⟨hkb2, rfl⟩
        all_goals
          cases u
          · obtain ⟨hnx, hnx2⟩ := hnot rfl
            clear hnot hzx
            go_wp2_with fail
            refine ⟨?_, by (simp [intOf]) <;> omega⟩
            first
              | exact ⟨k + 1, by omega, by go_num, by omega, HN1, by first | rfl | trivial⟩
              | ((repeat apply Exists.intro); exact ⟨k + 1, by omega, by go_num, by omega, HN1, by first | rfl | trivial⟩)
          · have hnx := hzx rfl
            subst hnx
            clear hnot hzx
            go_wp2_with fail
            refine ⟨?_, by (simp [intOf]) <;> omega⟩
            first
              | exact ⟨k + 1, by omega, by go_num, by omega, HN1, by first | rfl | trivial⟩
              | ((repeat apply Exists.intro); exact ⟨k + 1, by omega, by go_num, by omega, HN1, by first | rfl | trivial⟩)
      · have HI := hhit hy0
        have hyb : ((y : Int) != 0) = true := by simp; omega
        have hyb2 : ((y : Int) == 0) = false := by simp; omega
        have htl : t < 64 := by rw [ht]; exact (ctz_spec hy0 hy64).1
        have HC := hid_of (tz_any wr HT.out y hy0 hy64 t ht)
        rw [← ht] at HI
        obtain ⟨R, hR⟩ : ∃ R, R = 64 * k + t := ⟨_, rfl⟩
        rw [← hR] at HI
        have hsum : (k : Int) * 64 + (t : Int) = (R : Int) := by omega
        have hRb : R ≤ 10000 := by omega
        clear hfin hhit hy0 ht hR
        rcases hway with ⟨hkb2, hand⟩ | ⟨hkb2, rfl⟩
        all_goals
          cases u
          · obtain ⟨hnx, hnx2⟩ := hnot rfl
            clear hnot hzx
            go_wp2_with (go_at_call 36; refine HC.out.mono ?_; rintro e w1 ⟨rfl, rfl⟩)
            go_ret
            exact ⟨R, rfl, HI.out, rfl⟩
          · have hnx := hzx rfl
            subst hnx
            clear hnot hzx
            go_wp2_with (go_at_call 36; refine HC.out.mono ?_; rintro e w1 ⟨rfl, rfl⟩)
            go_ret
            exact ⟨R, rfl, HI.out, rfl⟩
    · have HI : Hid (IsSeek m N f u N) := ⟨.inr rfl, fun j h1 h2 h3 => hlo.out j h1 (by have := HN.out; omega)⟩
      have hkLb : decide ((k : Int) < (L : Int)) = false := decide_eq_false (by omega)
      have hNI : (64 : Int) * (L : Int) = (N : Int) := by have := HN.out; omega
      go_wp2_with fail
      go_ret
      exact ⟨N, rfl, HI.out, rfl⟩

end Go.Proofs.YthbophecmpdpdaaDoor

/- The program's map: First, Take, Run. -/
namespace Go.Proofs.YthbophecmpdpdaaDoor
set_option linter.unusedVariables false
set_option linter.unusedSimpArgs false
open Go.RowKit Dg

set_option maxRecDepth 100000 in
set_option maxHeartbeats 4000000 in
theorem mfirst_is (w : World) (b g c : Nat) (m : List Bool) (h : MpIs w b g c m) (f : Int) (hf : I64 f) (R : Int) (hR : IsFirst m f R) :
    Calls Tryd.prog 11 #[.pointer (some ⟨b, 0, none⟩), .int .i64 f] w fun e w' => e = .returned (.int .i64 R) ∧ w = w' := by
  obtain ⟨c0, -⟩ := h.cell
  obtain ⟨hf1, hf2⟩ := hf
  obtain ⟨f0, hf0⟩ : ∃ f0 : Nat, (f0 : Int) = max f 0 := ⟨f.toNat, by omega⟩
  have hf9 : (f0 : Int) ≤ 9223372036854775807 := by omega
  have HS := hid_of (mseek_is w b g c m h f0 hf9 false _ rfl)
  obtain ⟨N, hN⟩ : ∃ N, N = 64 * (wsOf m).length := ⟨_, rfl⟩
  rw [← hN] at HS
  have hNl : m.length ≤ N := by have := h.len; omega
  have hN10 : N ≤ 10000 := by have := h.len; omega
  have HK : Hid (∀ r : Nat, IsSeek m N f0 false r → R = if r < m.length then (r : Int) else -1) := fun r hr => by
    have h1 := hr.first hNl
    refine hR.one ?_
    rcases h1 with ⟨k, e1, e2, e3, e4⟩ | ⟨e1, e2⟩
    · exact .inl ⟨k, e1, by omega, e3, fun j g1 g2 => e4 j (by omega) g2⟩
    · exact .inr ⟨e1, fun j g1 => e2 j (by omega)⟩
  obtain ⟨n, hn⟩ : ∃ n, n = m.length := ⟨_, rfl⟩
  rw [← hn] at c0 HK
  have hle : n ≤ 4096 := by rw [hn]; exact h.le
  have hcase : (f = (f0 : Int)) ∨ (f < 0 ∧ f0 = 0) := by omega
  have HB : Hid (∀ r : Nat, IsSeek m N f0 false r → r ≤ N) := fun r hr => by rcases hr.1 with h1 | h1 <;> omega
  clear hf0 hR h hn hN hNl
  rcases hcase with rfl | ⟨hneg, hf0e⟩
  · clear hf1
    go_enter Tryd.func11, Tryd.ntmps11
    go_wp2_with fail
    refine HS.out.mono ?_
    rintro e w1 ⟨r, rfl, hr, rfl⟩
    have HRr := HK.out r hr
    have hrb := HB.out r hr
    clear hr
    by_cases hrn : r < n
    · rw [if_pos hrn] at HRr
      subst HRr
      go_wp2_with fail
      go_ret
      exact ⟨rfl, rfl⟩
    · rw [if_neg hrn] at HRr
      have hd : decide ((r : Int) < (n : Int)) = false := decide_eq_false (by omega)
      have hd2 : decide (r < n) = false := decide_eq_false hrn
      subst HRr
      go_wp2_with fail
      go_ret
      exact ⟨rfl, rfl⟩
  · subst hf0e
    go_enter Tryd.func11, Tryd.ntmps11
    go_wp2_with fail
    refine HS.out.mono ?_
    rintro e w1 ⟨r, rfl, hr, rfl⟩
    have HRr := HK.out r hr
    have hrb := HB.out r hr
    clear hr
    by_cases hrn : r < n
    · rw [if_pos hrn] at HRr
      subst HRr
      go_wp2_with fail
      go_ret
      exact ⟨rfl, rfl⟩
    · rw [if_neg hrn] at HRr
      have hd : decide ((r : Int) < (n : Int)) = false := decide_eq_false (by omega)
      have hd2 : decide (r < n) = false := decide_eq_false hrn
      subst HRr
      go_wp2_with fail
      go_ret
      exact ⟨rfl, rfl⟩
/-- There is always a first one, or none. -/
theorem first_is (m : List Bool) (f : Int) : ∃ R, IsFirst m f R ∧ -1 ≤ R ∧ R < (m.length : Int) := by
  by_cases h : ∃ k : Nat, f ≤ (k : Int) ∧ m[k]? = some false
  · have hl : ∀ n : Nat, (∃ k : Nat, k < n ∧ f ≤ (k : Int) ∧ m[k]? = some false) → ∃ k : Nat, (f ≤ (k : Int) ∧ m[k]? = some false) ∧ ∀ j : Nat, f ≤ (j : Int) → j < k → m[j]? ≠ some false := by
      intro n
      induction n with
      | zero => rintro ⟨k, hk, -⟩; exact absurd hk (Nat.not_lt_zero _)
      | succ n ih =>
        rintro ⟨k, hk, h1, h2⟩
        by_cases e : ∃ k : Nat, k < n ∧ f ≤ (k : Int) ∧ m[k]? = some false
        · exact ih e
        · have hkn : k = n := by
            by_cases e2 : k < n
            · exact absurd ⟨k, e2, h1, h2⟩ e
            · omega
          exact ⟨k, ⟨h1, h2⟩, fun j g1 g2 g3 => e ⟨j, by omega, g1, g3⟩⟩
    obtain ⟨k, h1, h2⟩ := h
    obtain ⟨q, ⟨e1, e2⟩, e3⟩ := hl (k + 1) ⟨k, by omega, h1, h2⟩
    exact ⟨(q : Int), .inl ⟨q, rfl, e1, e2, e3⟩, by omega, by have := (List.getElem?_eq_some_iff.1 e2).1; omega⟩
  · exact ⟨-1, .inr ⟨rfl, fun j h1 h2 => h ⟨j, h1, h2⟩⟩, by omega, by omega⟩
theorem IsFirst.bounds {m : List Bool} {f r : Int} (h : IsFirst m f r) : -1 ≤ r ∧ r < (m.length : Int) := by
  obtain ⟨R, h1, h2⟩ := first_is m f
  rw [h.one h1]; exact h2
theorem run_is (m : List Bool) (q : Int) (hq : I64 q) : ∃ R, IsRun m q R := by
  by_cases h0 : q < 1
  · exact ⟨-1, .inr ⟨rfl, .inl h0⟩⟩
  · obtain ⟨l, rfl⟩ : ∃ l : Nat, q = (l : Int) := ⟨q.toNat, by omega⟩
    by_cases h : ∃ k, FreeAt m k l
    · have hl : ∀ n : Nat, (∃ k : Nat, k < n ∧ FreeAt m k l) → ∃ k : Nat, FreeAt m k l ∧ ∀ i, i < k → ¬ FreeAt m i l := by
        intro n
        induction n with
        | zero => rintro ⟨k, hk, -⟩; exact absurd hk (Nat.not_lt_zero _)
        | succ n ih =>
          rintro ⟨k, hk, h1⟩
          by_cases e : ∃ k : Nat, k < n ∧ FreeAt m k l
          · exact ih e
          · have hkn : k = n := by
              by_cases e2 : k < n
              · exact absurd ⟨k, e2, h1⟩ e
              · omega
            exact ⟨k, h1, fun j g1 g3 => e ⟨j, by omega, g3⟩⟩
      obtain ⟨k, h1⟩ := h
      obtain ⟨p, e1, e2⟩ := hl (k + 1) ⟨k, by omega, h1⟩
      exact ⟨(p : Int), .inl ⟨p, l, rfl, by omega, rfl, e1, e2⟩⟩
    · exact ⟨-1, .inr ⟨rfl, .inr ⟨l, rfl, fun i hi => h ⟨i, hi⟩⟩⟩⟩
/-- What Take answers, and leaves. -/
theorem take_is {m : List Bool} {r : Int} (h : IsFirst m 0 r) : setM m r true = if 0 ≤ r then m.set r.toNat true else m := by
  rcases h with ⟨k, rfl, h1, h2, h3⟩ | ⟨rfl, h1⟩
  · have hk := (List.getElem?_eq_some_iff.1 h2).1
    have hs : setsB m (k : Int) true = true := by
      unfold setsB
      rw [usedZ_nat, dgt_false.2 h2, decide_eq_true (by omega)]; rfl
    unfold setM
    rw [if_pos hs, if_pos (by omega)]
  · have hs : setsB m (-1) true = false := by unfold setsB; rw [decide_eq_false (by omega)]; rfl
    unfold setM
    rw [hs]; rfl
set_option maxRecDepth 100000 in
set_option maxHeartbeats 4000000 in
theorem mtake_is (w : World) (b g c : Nat) (m : List Bool) (h : MpIs w b g c m) (R : Int) (hR : IsFirst m 0 R) (m2 : List Bool) (hm2 : m2 = if 0 ≤ R then m.set R.toNat true else m) :
    Calls Tryd.prog 10 #[.pointer (some ⟨b, 0, none⟩)] w fun e w' => e = .returned (.int .i64 R) ∧ MpIs w' b g c m2 ∧ Kept (fun k => k = g) w w' := by
  have HF := hid_of (mfirst_is w b g c m h 0 ⟨by decide, by decide⟩ R hR)
  have hb := hR.bounds
  have hle := h.le
  have HS := hid_of (mset_is w b g c m h R ⟨by omega, by omega⟩ true _ rfl m2 (by rw [hm2, take_is hR]))
  clear h hR hm2
  go_enter Tryd.func10, Tryd.ntmps10
  go_wp2_with fail
  refine HF.out.mono ?_
  rintro e w1 ⟨rfl, rfl⟩
  go_wp2_with fail
  refine HS.out.mono ?_
  rintro e w2 ⟨rfl, h2, h3⟩
  have H2 := hid_of h2
  have H3 := hid_of h3
  clear h2 h3
  go_wp2_with fail
  go_ret
  exact ⟨rfl, H2.out, H3.out⟩
/-- How far a run may go on. -/
def runMz (n : Nat) (a : Int) : Nat := if a < 0 then 0 else n + 1 - a.toNat
theorem runMz_lt {n k : Nat} {a : Int} (hk : k < n) (h : a < 0 ∨ (k : Int) < a) : runMz n a < runMz n (k : Int) := by
  unfold runMz
  rw [if_neg (by omega : ¬ (k : Int) < 0)]
  split <;> omega
set_option maxRecDepth 100000 in
set_option maxHeartbeats 4000000 in
theorem mrun_is (w : World) (b g c : Nat) (m : List Bool) (h : MpIs w b g c m) (q : Int) (hq : I64 q) (R : Int) (hR : IsRun m q R) :
    Calls Tryd.prog 9 #[.pointer (some ⟨b, 0, none⟩), .int .i64 q] w fun e w' => e = .returned (.int .i64 R) ∧ w = w' := by
  obtain ⟨hq1, hq2⟩ := hq
  by_cases h0 : q < 1
  · have hR' : R = -1 := hR.one (.inr ⟨rfl, .inl h0⟩)
    subst hR'
    clear hR h
    go_enter Tryd.func9, Tryd.ntmps9
    go_wp2_with fail
    go_ret
    exact ⟨rfl, rfl⟩
  · obtain ⟨l, rfl⟩ : ∃ l : Nat, q = (l : Int) := ⟨q.toNat, by omega⟩
    have hl1 : 1 ≤ l := by omega
    have hlb : decide ((l : Int) < 1) = false := decide_eq_false h0
    obtain ⟨n, hn⟩ : ∃ n, n = m.length := ⟨_, rfl⟩
    obtain ⟨N, hN⟩ : ∃ N, N = 64 * (wsOf m).length := ⟨_, rfl⟩
    have hnN : n ≤ N := by have := h.len; omega
    have hN10 : N ≤ 10000 := by have := h.len; omega
    obtain ⟨A0, hA0, hA1, hA2⟩ := first_is m 0
    have HF0 := hid_of (mfirst_is w b g c m h 0 ⟨by decide, by decide⟩ A0 hA0)
    have HA0 := hid_of hA0
    have HFF : Hid (∀ f : Nat, f ≤ N → ∀ a, IsFirst m (f : Int) a → Calls Tryd.prog 11 #[.pointer (some ⟨b, 0, none⟩), .int .i64 (f : Int)] w fun e w' => e = .returned (.int .i64 a) ∧ w = w') := fun f hf a ha => mfirst_is w b g c m h f ⟨by omega, by omega⟩ a ha
    have HSS : Hid (∀ f : Nat, f ≤ N → Calls Tryd.prog 22 #[.pointer (some ⟨b, 0, none⟩), .int .i64 (f : Int), .bool true] w fun e w' => ∃ r : Nat, e = .returned (.int .i64 (r : Int)) ∧ IsSeek m N f true r ∧ w = w') := fun f hf => mseek_is w b g c m h f (by omega) true N hN
    have HR := hid_of hR
    have HNn := hid_of hn
    rw [← hn] at hA2
    clear hR h hn hN hA0
    go_enter Tryd.func9, Tryd.ntmps9
    go_wp2_with fail
    refine HF0.out.mono ?_
    rintro e w1 ⟨rfl, rfl⟩
    go_wp2_with fail
    go_loopw [5, 6] (fun v _ wr => ∃ (a : Int) (f : Nat), v = .int .i64 a ∧ -1 ≤ a ∧ a < (n : Int) ∧ Hid (IsFirst m (f : Int) a) ∧ Hid (∀ i, i < f → ¬ FreeAt m i l) ∧ wr = w) (fun v _ _ => runMz n (intOf v))
    case atStart => exact ⟨A0, 0, rfl, hA1, hA2, HA0, fun i hi => absurd hi (Nat.not_lt_zero _), rfl⟩
    case round =>
      obtain ⟨a, f, rfl, ha1, ha2, hfa, hlo, rfl⟩ := hrel
      by_cases haneg : a < 0
      · have hRr : R = -1 := by
          refine HR.out.one (.inr ⟨rfl, .inr ⟨l, rfl, fun i hi => ?_⟩⟩)
          by_cases e : i < f
          · exact hlo.out i e hi
          · rcases hfa.out with ⟨k, e1, -⟩ | ⟨-, e2⟩
            · omega
            · exact e2 i (by omega) (hi 0 (by omega))
        have hab : decide (0 ≤ a) = false := decide_eq_false (by omega)
        subst hRr
        go_wp2_with fail
        go_ret
        exact ⟨rfl, rfl⟩
      · obtain ⟨k, rfl⟩ : ∃ k : Nat, a = (k : Int) := ⟨a.toNat, by omega⟩
        have hk0 : m[k]? = some false ∧ ∀ j, f ≤ j → j < k → m[j]? ≠ some false := by
          rcases hfa.out with ⟨k', e1, e2, e3, e4⟩ | ⟨e1, -⟩
          · obtain rfl : k = k' := by omega
            exact ⟨e3, fun j g1 g2 => e4 j (by omega) g2⟩
          · omega
        have HK0 := hid_of hk0
        have hkn : k < n := by omega
        have HSk := hid_of (HSS.out k (by omega))
        clear hk0
        go_wp2_with fail
        refine HSk.out.mono ?_
        rintro e w2 ⟨en, rfl, hse, rfl⟩
        obtain ⟨h1, h2, h3, h4⟩ := hse.run (by rw [← HNn.out]; exact hnN) (by omega) HK0.out.1
        have HP : Hid ((∀ j, k ≤ j → j < en → m[j]? = some false) ∧ m[en]? ≠ some false) := ⟨h3, h4⟩
        have HLK : Hid (∀ i, i < k → ¬ FreeAt m i l) := fun i hi hf => by
          by_cases e : i < f
          · exact hlo.out i e hf
          · exact HK0.out.2 i (by omega) hi (hf 0 (by omega))
        clear hse h3 h4 HSk
        obtain ⟨d, hd⟩ : ∃ d, d = en - k := ⟨_, rfl⟩
        have hdI : (en : Int) - (k : Int) = (d : Int) := by omega
        have HD := hid_of hd
        clear hd
        by_cases hdl : l ≤ d
        · have hRr : R = (k : Int) := by
            refine HR.out.one (.inl ⟨k, l, rfl, hl1, rfl, fun j hj => HP.out.1 (k + j) (by omega) (by have := HD.out; omega), HLK.out⟩)
          subst hRr
          go_wp2_with fail
          go_ret
          exact ⟨rfl, rfl⟩
        · have hdb : decide ((l : Int) ≤ (d : Int)) = false := decide_eq_false (by omega)
          have hdb2 : decide (l ≤ d) = false := decide_eq_false hdl
          obtain ⟨a2, hf2, ha3, ha4⟩ := first_is m (en : Int)
          have HF2 := hid_of (HFF.out en (by omega) a2 hf2)
          have HI2 := hid_of hf2
          have HL2 : Hid (∀ i, i < en → ¬ FreeAt m i l) := fun i hi hf => by
            by_cases e : i < k
            · exact HLK.out i e hf
            · refine HP.out.2 ?_
              have := hf (en - i) (by have := HD.out; omega)
              rw [show i + (en - i) = en by omega] at this
              exact this
          have hlt : a2 < 0 ∨ (k : Int) < a2 := by
            rcases hf2 with ⟨k', e1, e2, -⟩ | ⟨e1, -⟩ <;> omega
          rw [← HNn.out] at ha4
          clear hf2
          go_wp2_with fail
          refine HF2.out.mono ?_
          rintro e w3 ⟨rfl, rfl⟩
          go_wp2_with fail
          refine ⟨?_, ?_⟩
          · first
              | exact ⟨a2, en, rfl, ha3, ha4, HI2, HL2, by first | rfl | trivial⟩
              | ((repeat apply Exists.intro); exact ⟨a2, en, rfl, ha3, ha4, HI2, HL2, by first | rfl | trivial⟩)
          · simp only [intOf]
            exact runMz_lt hkn hlt

end Go.Proofs.YthbophecmpdpdaaDoor
