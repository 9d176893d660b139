/- The texts SuRef4, one behind the other. -/
import Derived.Test.YtdcnbakmmkbodaaPart05
import Derived.Test.YtdcnbakmmkbodaaPart03

/- The document's superblocks: UnpackSuper. -/
namespace Go.Proofs.Ytdcnbakmmkbodaa
set_option linter.unusedVariables false
set_option linter.unusedSimpArgs false
open Go.RowKit Dg Cr

theorem results_cell3 {P : Program} {fn : Func} {p u v : Tmp} {ty : TypeId} (h : fn.results = #[.cell p ty, .tmp u, .tmp v]) (tmps : Array Value) (w : World) (g : Nat) (t : TypeId) (cs : Array Value) (fr : Nat × Nat) (d : TypeDesc)
    (hp : tmps.getD p undef = .pointer (some ⟨g, 0, none⟩)) (hg : w.heap[g]? = some (.cells cs t fr))
    (hu : P.underlying ty = some d) (hd : (match d with | .struct _ | .array _ _ => true | _ => false) = true) (hi : (P.info? ty).map (·.size) = some cs.size) :
    (results fn tmps).run P w = .ok (.tuple #[.agg cs, tmps.getD u undef, tmps.getD v undef]) w := by
  have hp' : tmps[p]?.getD undef = .pointer (some ⟨g, 0, none⟩) := by simpa using hp
  simp [results, h, hp', asAddr, run_loadVar_row w g t ty cs fr d hg hu hd hi, Sem.run_bind, Result.andThen]
theorem results_cell4 {P : Program} {fn : Func} {p u v x : Tmp} {ty : TypeId} (h : fn.results = #[.cell p ty, .tmp u, .tmp v, .tmp x]) (tmps : Array Value) (w : World) (g : Nat) (t : TypeId) (cs : Array Value) (fr : Nat × Nat) (d : TypeDesc)
    (hp : tmps.getD p undef = .pointer (some ⟨g, 0, none⟩)) (hg : w.heap[g]? = some (.cells cs t fr))
    (hu : P.underlying ty = some d) (hd : (match d with | .struct _ | .array _ _ => true | _ => false) = true) (hi : (P.info? ty).map (·.size) = some cs.size) :
    (results fn tmps).run P w = .ok (.tuple #[.agg cs, tmps.getD u undef, tmps.getD v undef, tmps.getD x undef]) w := by
  have hp' : tmps[p]?.getD undef = .pointer (some ⟨g, 0, none⟩) := by simpa using hp
  simp [results, h, hp', asAddr, run_loadVar_row w g t ty cs fr d hg hu hd hi, Sem.run_bind, Result.andThen]
theorem take_five {b : List Nat} (h : b.length = 128) : takeN (b.drop 8) [4, 4, 4, 4, 4] = some [(readSu b).gen, (readSu b).life, (readSu b).done, (readSu b).root, num4 b 24] := by
  have e : ∀ k, k ≤ 128 → (b.drop k).length = 128 - k := fun k _ => by simp [h]
  simp only [takeN, List.drop_drop]
  rw [if_pos (by simp [h]), if_pos (by simp [h]), if_pos (by simp [h]), if_pos (by simp [h]), if_pos (by simp [h])]
  rfl
theorem num4_bound {b : List Nat} (h256 : ∀ x ∈ b, x < 256) (i : Nat) : 0 ≤ num4 b i ∧ num4 b i < 4294967296 := by
  have hl : ((b.drop i).take 4).length ≤ 4 := by simp; omega
  have hb : ∀ x ∈ (b.drop i).take 4, x < 256 := fun x hx => h256 x (List.mem_of_mem_drop (List.mem_of_mem_take hx))
  unfold num4
  generalize (b.drop i).take 4 = m at hl hb
  have : ∀ (m : List Nat) (k : Nat), m.length ≤ k → (∀ x ∈ m, x < 256) → getN m < 256 ^ k := by
    intro m
    induction m with
    | nil => intro k _ _; exact Nat.pow_pos (by decide)
    | cons x m ih =>
      intro k hk hx
      obtain ⟨j, rfl⟩ : ∃ j, k = j + 1 := ⟨k - 1, by simp at hk; omega⟩
      have h1 := ih j (by simpa using hk) (fun y hy => hx y (List.mem_cons_of_mem _ hy))
      have h2 := hx x (List.mem_cons_self ..)
      show x + 256 * getN m < 256 ^ (j + 1)
      rw [Nat.pow_succ]
      omega
  have h4 := this m 4 hl hb
  have e : (256 : Nat) ^ 4 = 4294967296 := by decide
  rw [e] at h4
  omega

theorem Bs.ofo {w : World} {base g n c : Nat} {l : List Nat} (h : w.ownsRow base 5 1 (.slice (some ⟨g, 0, none⟩) n c) n (u8s l)) : Bs w (some ⟨g, 0, none⟩) c l := by
  have hl : l.length = n := by have := h.1; simpa using this
  have h1 := own_cap h
  refine ⟨?_, by omega, fun e => by cases e⟩
  rw [hl]
  exact SlAt.of_owns h
/-- What each of the operations of UnpackSuper's test leaves. -/
def UpR (a : Option Addr) (cap g k2 sx : Nat) (x1 x2 x3 x4 x5 : Int) (P : List Nat) (sP sL : ByteArray) (B0 B1 B2 B3 B4 B5 B6 B7 B8 C0 C1 C2 C3 C4 C5 C6 C7 : Bool) : Nat → Value → World → Prop
  | 0, v, w => v = .agg #[.int .i64 x1, .int .i64 x2, .int .i64 x3, .int .i64 x4]
  | 1, v, w => v = .slice (some ⟨g, 0, none⟩) 5 k2
  | 2, v, w => v = .pointer (some ⟨g, 4, none⟩)
  | 3, v, w => v = .int .i64 x5
  | 4, v, w => RowV w 128 P v
  | 5, v, w => v = .string sP
  | 6, v, w => v = .slice a 128 cap
  | 7, v, w => v = .string sL
  | 8, v, w => v = .bool B0
  | 9, v, w => v = .bool B0
  | 10, v, w => B0 = false → v = .pointer (some ⟨sx, 0, none⟩)
  | 11, v, w => B0 = false → v = .int .i64 x1
  | 12, v, w => B0 = false → v = .bool C0
  | 13, v, w => v = .bool B1
  | 14, v, w => v = .bool B1
  | 15, v, w => B1 = false → v = .pointer (some ⟨sx, 0, none⟩)
  | 16, v, w => B1 = false → v = .int .i64 x1
  | 17, v, w => B1 = false → v = .bool C1
  | 18, v, w => v = .bool B2
  | 19, v, w => v = .bool B2
  | 20, v, w => B2 = false → v = .pointer (some ⟨sx, 1, none⟩)
  | 21, v, w => B2 = false → v = .int .i64 x2
  | 22, v, w => B2 = false → v = .bool C2
  | 23, v, w => v = .bool B3
  | 24, v, w => v = .bool B3
  | 25, v, w => B3 = false → v = .pointer (some ⟨sx, 1, none⟩)
  | 26, v, w => B3 = false → v = .int .i64 x2
  | 27, v, w => B3 = false → v = .bool C3
  | 28, v, w => v = .bool B4
  | 29, v, w => v = .bool B4
  | 30, v, w => B4 = false → v = .pointer (some ⟨sx, 2, none⟩)
  | 31, v, w => B4 = false → v = .int .i64 x3
  | 32, v, w => B4 = false → v = .bool C4
  | 33, v, w => v = .bool B5
  | 34, v, w => v = .bool B5
  | 35, v, w => B5 = false → v = .pointer (some ⟨sx, 3, none⟩)
  | 36, v, w => B5 = false → v = .int .i64 x4
  | 37, v, w => B5 = false → v = .bool C5
  | 38, v, w => v = .bool B6
  | 39, v, w => v = .bool B6
  | 40, v, w => B6 = false → v = .slice (some ⟨g, 0, none⟩) 5 k2
  | 41, v, w => B6 = false → v = .pointer (some ⟨g, 4, none⟩)
  | 42, v, w => B6 = false → v = .int .i64 x5
  | 43, v, w => B6 = false → v = .bool C6
  | 44, v, w => v = .bool B7
  | 45, v, w => v = .bool B7
  | 46, v, w => B7 = false → v = .slice (some ⟨g, 0, none⟩) 5 k2
  | 47, v, w => B7 = false → v = .pointer (some ⟨g, 4, none⟩)
  | 48, v, w => B7 = false → v = .int .i64 x5
  | 49, v, w => B7 = false → v = .bool C7
  | 50, v, w => v = .bool B8
  | _, _, _ => True
theorem UpR.stay {a : Option Addr} {cap g k2 sx : Nat} {x1 x2 x3 x4 x5 : Int} {P : List Nat} {sP sL : ByteArray} {B0 B1 B2 B3 B4 B5 B6 B7 B8 C0 C1 C2 C3 C4 C5 C6 C7 : Bool} : ∀ (i : Nat) (v : Value) (w w' : World), UpR a cap g k2 sx x1 x2 x3 x4 x5 P sP sL B0 B1 B2 B3 B4 B5 B6 B7 B8 C0 C1 C2 C3 C4 C5 C6 C7 i v w → Stay w w' → UpR a cap g k2 sx x1 x2 x3 x4 x5 P sP sL B0 B1 B2 B3 B4 B5 B6 B7 B8 C0 C1 C2 C3 C4 C5 C6 C7 i v w'
  | 0, v, w, w', h, k => h
  | 1, v, w, w', h, k => h
  | 2, v, w, w', h, k => h
  | 3, v, w, w', h, k => h
  | 4, v, w, w', h, k => RowV.stay k h
  | 5, v, w, w', h, k => h
  | 6, v, w, w', h, k => h
  | 7, v, w, w', h, k => h
  | 8, v, w, w', h, k => h
  | 9, v, w, w', h, k => h
  | 10, v, w, w', h, k => h
  | 11, v, w, w', h, k => h
  | 12, v, w, w', h, k => h
  | 13, v, w, w', h, k => h
  | 14, v, w, w', h, k => h
  | 15, v, w, w', h, k => h
  | 16, v, w, w', h, k => h
  | 17, v, w, w', h, k => h
  | 18, v, w, w', h, k => h
  | 19, v, w, w', h, k => h
  | 20, v, w, w', h, k => h
  | 21, v, w, w', h, k => h
  | 22, v, w, w', h, k => h
  | 23, v, w, w', h, k => h
  | 24, v, w, w', h, k => h
  | 25, v, w, w', h, k => h
  | 26, v, w, w', h, k => h
  | 27, v, w, w', h, k => h
  | 28, v, w, w', h, k => h
  | 29, v, w, w', h, k => h
  | 30, v, w, w', h, k => h
  | 31, v, w, w', h, k => h
  | 32, v, w, w', h, k => h
  | 33, v, w, w', h, k => h
  | 34, v, w, w', h, k => h
  | 35, v, w, w', h, k => h
  | 36, v, w, w', h, k => h
  | 37, v, w, w', h, k => h
  | 38, v, w, w', h, k => h
  | 39, v, w, w', h, k => h
  | 40, v, w, w', h, k => h
  | 41, v, w, w', h, k => h
  | 42, v, w, w', h, k => h
  | 43, v, w, w', h, k => h
  | 44, v, w, w', h, k => h
  | 45, v, w, w', h, k => h
  | 46, v, w, w', h, k => h
  | 47, v, w, w', h, k => h
  | 48, v, w, w', h, k => h
  | 49, v, w, w', h, k => h
  | 50, v, w, w', h, k => h
  | n + 51, v, w, w', h, k => trivial
def UpA (a : Option Addr) (cap rx g k2 sx q : Nat) (x1 x2 x3 x4 : Int) : (Nat → Value) → Act := fun vs => { tmps := #[.slice a 128 cap, undef, .pointer (some ⟨rx, 0, none⟩), .int .i64 0, .bool false, .slice (some ⟨g, 0, none⟩) 5 k2, .bool true, .pointer (some ⟨sx, 0, none⟩), .slice a 128 cap, .int .i64 128, .bool false, undef, .tuple #[.slice (some ⟨g, 0, none⟩) 5 k2, .bool true], .slice a 128 cap, .slice (lowA a cap 8) 120 (cap - 8), .slice (some ⟨q, 0, none⟩) 5 5, .tuple #[.slice (some ⟨g, 0, none⟩) 5 k2, .bool true], .slice (some ⟨g, 0, none⟩) 5 k2, .bool true, .slice (some ⟨g, 0, none⟩) 5 k2, .pointer (some ⟨g, 0, none⟩), .int .i64 x1, .slice (some ⟨g, 0, none⟩) 5 k2, .pointer (some ⟨g, 1, none⟩), .int .i64 x2, .slice (some ⟨g, 0, none⟩) 5 k2, .pointer (some ⟨g, 2, none⟩), .int .i64 x3, .slice (some ⟨g, 0, none⟩) 5 k2, .pointer (some ⟨g, 3, none⟩), .int .i64 x4, .agg #[.int .i64 x1, .int .i64 x2, .int .i64 x3, .int .i64 x4], vs 0, vs 1, vs 2, vs 3, vs 4, vs 5, vs 6, vs 7, vs 8, vs 9, vs 10, vs 11, vs 12, vs 13, vs 14, vs 15, vs 16, vs 17, vs 18, vs 19, vs 20, vs 21, vs 22, vs 23, vs 24, vs 25, vs 26, vs 27, vs 28, vs 29, vs 30, vs 31, vs 32, vs 33, vs 34, vs 35, vs 36, vs 37, vs 38, vs 39, vs 40, vs 41, vs 42, vs 43, vs 44, vs 45, vs 46, vs 47, vs 48, vs 49, vs 50, undef, undef, undef, undef, undef], defers := [] }
set_option maxRecDepth 100000 in
set_option maxHeartbeats 8000000 in
theorem runp_any (w : World) (a : Option Addr) (n cap : Nat) (l : List Nat) (hB : Bs w a cap l) (hl : l.length = n) (h256 : ∀ x ∈ l, x < 256) (hn : n ≤ 100000) (hc : n ≤ cap) :
    Calls Try.prog 20 #[.slice a n cap] w fun e w' => e = .returned (.tuple #[suV (unpSu l).1, .int .i64 (unpSu l).2.1, .bool (unpSu l).2.2]) ∧ Below w.heap.size w w' := by
  obtain ⟨u, uc, uo, hu⟩ : ∃ u uc uo, unpSu l = (u, uc, uo) := ⟨_, _, _, rfl⟩
  rw [hu]
  have HU := hid_of hu
  clear hu
  show Calls Try.prog _ _ w fun e w' => e = .returned (.tuple #[suV u, .int .i64 uc, .bool uo]) ∧ Below w.heap.size w w'
  by_cases h128 : n = 128
  · subst h128
    obtain ⟨x5, hx5⟩ : ∃ x, x = num4 l 24 := ⟨_, rfl⟩
    obtain ⟨⟨x1, x2, x3, x4⟩, hx⟩ : ∃ s, s = readSu l := ⟨_, rfl⟩
    have hT := take_five hl
    rw [← hx, ← hx5] at hT
    have HTK : Hid (∀ (W : World) (wa : Option Addr), Below w.heap.size w W → IntsAt W wa [4, 4, 4, 4, 4] → Calls Try.prog 31 #[.slice (lowA a cap 8) 120 (cap - 8), .slice wa 5 5] W fun e w' => ∃ g c, e = .returned (.tuple #[.slice (some ⟨g, 0, none⟩) 5 c, .bool true]) ∧ IntsAt w' (some ⟨g, 0, none⟩) [x1, x2, x3, x4, x5] ∧ W.heap.size ≤ g ∧ g < w'.heap.size ∧ Below W.heap.size W w') := fun W wa hW hi => by
      have hb2 : Bs W (lowA a cap 8) (cap - 8) (l.drop 8) := (hB.below hW).lo 8 (by omega)
      have e := rtakeN_any W (lowA a cap 8) wa (cap - 8) 5 (l.drop 8) [4, 4, 4, 4, 4] hb2 hi (by simp; omega) (by decide) (fun x hx => h256 x (List.mem_of_mem_drop hx)) (fun x hx => by
        simp at hx; subst hx; exact ⟨by decide, by decide⟩) _ rfl
      rw [hT, show (l.drop 8).length = 120 by simp [hl]] at e
      refine e.mono ?_
      rintro e w' ⟨v, rfl, ho, hbl⟩
      obtain ⟨a', c', rfl, hat, h0⟩ := ho.slice
      rcases h0 with ⟨-, e2, -⟩ | ⟨g, rfl, hg1, hg2⟩
      · cases e2
      · exact ⟨g, c', rfl, hat, hg1, hg2, hbl⟩
    have hsl : ∀ W, (Instr.sliceAt 26 (.slice a 128 cap) (some (.int .i64 8)) none none).run Try.prog W = .ok (.slice (lowA a cap 8) 120 (cap - 8)) W := fun W => slice_lo a 128 cap 8 (by decide) W
    clear hT
    go_enter Try.func20, Try.ntmps20
    go_wp2_with fail
    obtain ⟨w1, hw1⟩ : ∃ w1, w1 = w.alloc (.cells #[.int .i64 0, .int .i64 0, .int .i64 0, .int .i64 0] 23) := ⟨_, rfl⟩
    obtain ⟨rx, hrx⟩ : ∃ rx, rx = w.heap.size := ⟨_, rfl⟩
    have hs1 : w1.heap.size = rx + 1 := by rw [hw1, hrx]; simp
    have hb1 : Below w.heap.size w w1 := by rw [hw1]; exact (Below.refl _ _).alloc (Nat.le_refl _) _
    have hr1 : w1.heap[rx]? = some (.cells #[.int .i64 0, .int .i64 0, .int .i64 0, .int .i64 0] 23 (0, 0)) := by rw [hw1, hrx]; exact heap_alloc_new w _
    rw [← hw1, ← hrx, ← hs1]
    have hlit : IntsAt (w1.alloc (.cells #[.int .i64 4, .int .i64 4, .int .i64 4, .int .i64 4, .int .i64 4] 3)) (some ⟨w1.heap.size, 0, none⟩) [4, 4, 4, 4, 4] := (OwnInts.lit w1 0 [4, 4, 4, 4, 4] 5 rfl (Nat.zero_le _) (by decide) _ rfl).at
    have hb2 : Below w.heap.size w (w1.alloc (.cells #[.int .i64 4, .int .i64 4, .int .i64 4, .int .i64 4, .int .i64 4] 3)) := hb1.alloc hb1.size _
    have HC1 := hid_of (HTK.out _ _ hb2 hlit)
    have HB2 := hid_of hb2
    have HS1 := hid_of hs1
    have HR1 := hid_of hr1
    have HRX : Hid (rx = w.heap.size) := hrx
    clear hw1 hrx hs1 hb1 hr1 hlit hb2 HTK
    refine HC1.out.mono ?_
    rintro e w2 ⟨g, k2, rfl, hat, hg1, hg2, hb⟩
    have hs12 : w1.heap.size ≤ (w1.alloc (.cells #[.int .i64 4, .int .i64 4, .int .i64 4, .int .i64 4, .int .i64 4] 3)).heap.size := by simp
    have HB3 : Hid (Below w.heap.size w w2) := HB2.out.trans (hb.mono HB2.out.size)
    have HR2 : Hid (w2.heap[rx]? = some (.cells #[.int .i64 0, .int .i64 0, .int .i64 0, .int .i64 0] 23 (0, 0))) := by
      have e1 : (w1.alloc (.cells #[.int .i64 4, .int .i64 4, .int .i64 4, .int .i64 4, .int .i64 4] 3)).heap[rx]? = w1.heap[rx]? := heap_alloc_old _ _ (by have := HS1.out; omega)
      exact (hb.block rx (by have := HS1.out; omega)).trans (e1.trans HR1.out)
    have HG : Hid (w.heap.size ≤ g ∧ g < w2.heap.size ∧ rx < w2.heap.size) := ⟨by have := HB2.out.size; omega, hg2, (Array.getElem?_eq_some_iff.1 HR2.out).1⟩
    have hcell : ∀ j x, [x1, x2, x3, x4, x5][j]? = some x → w2.cell? ⟨g, j, none⟩ = some (.int .i64 x) := fun j x hx => by
      obtain ⟨b', off, e1, e2⟩ := hat j x hx
      cases e1
      rw [Nat.zero_add] at e2
      exact e2
    have j1 := hcell 0 x1 rfl
    have j2 := hcell 1 x2 rfl
    have j3 := hcell 2 x3 rfl
    have j4 := hcell 3 x4 rfl
    have HJ5 : Hid (w2.cell? ⟨g, 4, none⟩ = some (.int .i64 x5)) := hcell 4 x5 rfl
    clear hat hg1 hg2 hb hs12 hcell HC1 HB2 HS1 HR1
    go_upto_region 4 with fail
    go_region_held (fun W' => W'.cell? ⟨g, 0, none⟩ = some (.int .i64 x1) ∧ W'.cell? ⟨g, 1, none⟩ = some (.int .i64 x2) ∧ W'.cell? ⟨g, 2, none⟩ = some (.int .i64 x3) ∧ W'.cell? ⟨g, 3, none⟩ = some (.int .i64 x4)) (first | assumption | go_keep) (fail)
    obtain ⟨w3, hw3⟩ : ∃ w3, w3 = (w2.alloc (.cells #[.int .i64 x1, .int .i64 x2, .int .i64 x3, .int .i64 x4] 23)).drew := ⟨_, rfl⟩
    obtain ⟨sx, hsx⟩ : ∃ sx, sx = w2.heap.size := ⟨_, rfl⟩
    have hb23 : Below w2.heap.size w2 w3 := by rw [hw3]; exact ((Below.refl _ _).alloc (Nat.le_refl _) _).drew
    have hx3 : w3.heap[sx]? = some (.cells #[.int .i64 x1, .int .i64 x2, .int .i64 x3, .int .i64 x4] 23 (0, 0)) := by rw [hw3, hsx]; exact heap_alloc_new w2 _
    have HW3 : Hid (Below w.heap.size w w3) := HB3.out.trans (hb23.mono HB3.out.size)
    have HR3 : Hid (w3.heap[rx]? = some (.cells #[.int .i64 0, .int .i64 0, .int .i64 0, .int .i64 0] 23 (0, 0))) := (hb23.block rx HG.out.2.2).trans HR2.out
    have HG3 : Hid (w3.cell? ⟨g, 4, none⟩ = some (.int .i64 x5) ∧ g < w3.heap.size ∧ rx < w3.heap.size ∧ sx < w3.heap.size ∧ rx ≠ sx) := ⟨by show w3.cell? _ = _; rw [hb23.cell (p := ⟨g, 4, none⟩) HG.out.2.1]; exact HJ5.out, by have := hb23.size; have := HG.out.2.1; omega, by have := hb23.size; have := HG.out.2.2; omega, (Array.getElem?_eq_some_iff.1 hx3).1, by have := HG.out.2.2; omega⟩
    have HX3 := hid_of hx3
    obtain ⟨q, hq1⟩ : ∃ q, q = w1.heap.size := ⟨_, rfl⟩
    rw [← hw3, ← hsx, ← hq1]
    clear hw3 hsx hb23 hx3 hq1 HB3 HR2 HG HJ5 j1 j2 j3 j4
    obtain ⟨B, hBB⟩ : ∃ B, B = w3.heap.size := ⟨_, rfl⟩
    have HBS := hid_of hBB
    have HB0' : Hid (Below B w3 w3.drew) := (Below.refl _ _).drew
    have HCS : Hid (∀ W : World, Below B w3 W → W.cell? ⟨sx, 0, none⟩ = some (.int .i64 x1) ∧ W.cell? ⟨sx, 1, none⟩ = some (.int .i64 x2) ∧ W.cell? ⟨sx, 2, none⟩ = some (.int .i64 x3) ∧ W.cell? ⟨sx, 3, none⟩ = some (.int .i64 x4)) := fun W hb => by
      have e : W.heap[sx]? = _ := (hb.block sx (by rw [hBB]; exact HG3.out.2.2.2.1)).trans HX3.out
      refine ⟨?_, ?_, ?_, ?_⟩ <;> (unfold World.cell?; rw [e]; rfl)
    have HG5 : Hid (∀ W : World, Below B w3 W → W.cell? ⟨g, 4, none⟩ = some (.int .i64 x5)) := fun W hb => by
      rw [hb.cell (p := ⟨g, 4, none⟩) (by rw [hBB]; exact HG3.out.2.1)]; exact HG3.out.1
    obtain ⟨P, hP⟩ : ∃ P, P = packSu ⟨x1, x2, x3, x4⟩ x5 := ⟨_, rfl⟩
    have hi1 := num4_bound h256 8
    have hi2 := num4_bound h256 12
    have hi3 := num4_bound h256 16
    have hi4 := num4_bound h256 20
    have hi5 := num4_bound h256 24
    have ex1 : x1 = num4 l 8 := congrArg Su.gen hx
    have ex2 : x2 = num4 l 12 := congrArg Su.life hx
    have ex3 : x3 = num4 l 16 := congrArg Su.done hx
    have ex4 : x4 = num4 l 20 := congrArg Su.root hx
    rw [← ex1] at hi1
    rw [← ex2] at hi2
    rw [← ex3] at hi3
    rw [← ex4] at hi4
    rw [← hx5] at hi5
    have HPK : Hid (∀ W : World, Calls Try.prog 14 #[.agg #[.int .i64 x1, .int .i64 x2, .int .i64 x3, .int .i64 x4], .int .i64 x5] W fun e w' => ∃ g k, e = .returned (.slice (some ⟨g, 0, none⟩) 128 k) ∧ Bs w' (some ⟨g, 0, none⟩) k P ∧ Below W.heap.size W w') := fun W =>
      (rpacksu_any W ⟨x1, x2, x3, x4⟩ x5 ⟨by show _ ≤ x1; omega, by show x1 ≤ _; omega⟩ ⟨by show _ ≤ x2; omega, by show x2 ≤ _; omega⟩ ⟨by show _ ≤ x3; omega, by show x3 ≤ _; omega⟩ ⟨by show _ ≤ x4; omega, by show x4 ≤ _; omega⟩ ⟨by omega, by omega⟩).mono fun e w' ⟨g, k, e1, e2, e3⟩ => ⟨g, k, e1, by rw [hP]; exact Bs.ofo e2, e3⟩
    have hPl : P.length = 128 := by rw [hP]; exact length_packSu _ _
    have hP256 : ∀ x ∈ P, x < 256 := by rw [hP]; exact packSu_lt _ _
    obtain ⟨sP, hsP⟩ : ∃ s, s = strB P := ⟨_, rfl⟩
    obtain ⟨sL, hsL⟩ : ∃ s, s = strB l := ⟨_, rfl⟩
    have HSP : Hid (∀ (W : World) (a4 : Option Addr) (c4 : Nat), Bs W a4 c4 P → (convert 26 9 (.slice a4 128 c4)).run Try.prog W = .ok (.string sP) W) := fun W a4 c4 hb => by
      have e := hb.at_
      rw [hPl] at e
      rw [hsP]
      exact conv_bytes W a4 128 c4 P hPl (by decide) e
    have HSL : Hid (∀ W : World, Below B w3 W → (convert 26 9 (.slice a 128 cap)).run Try.prog W = .ok (.string sL) W) := fun W hb => by
      have hb2 : Bs W a cap l := (hB.below HW3.out).below (by rw [← hBB]; exact hb)
      have e := hb2.at_
      rw [hl] at e
      rw [hsL]
      exact conv_bytes W a 128 cap l hl (by decide) e
    obtain ⟨B0, hB0⟩ : ∃ b, b = decide (P ≠ l) := ⟨_, rfl⟩
    have HQ : Hid ((sP.toList == sL.toList) = !B0) := by
      show _ = _
      rw [hB0, hsP, hsL, ByteArray.toList_eq, ByteArray.toList_eq]
      by_cases h : P = l
      · rw [decide_eq_false (fun e => e h)]; exact beq_iff_eq.2 ((strB_eq hP256 h256).2 h)
      · rw [decide_eq_true h]; exact beq_eq_false_iff_ne.2 (fun e => h ((strB_eq hP256 h256).1 e))
    obtain ⟨C0, hC0⟩ : ∃ b, b = decide (x1 < 1) := ⟨_, rfl⟩
    have HC0 : Hid (decide (x1 < 1) = C0) := hC0.symm
    obtain ⟨B1, hB1⟩ : ∃ b, b = (B0 || C0) := ⟨_, rfl⟩
    have HB1 := hid_of hB1
    obtain ⟨C1, hC1⟩ : ∃ b, b = decide (2147483648 ≤ x1) := ⟨_, rfl⟩
    have HC1 : Hid (decide (2147483648 ≤ x1) = C1) := hC1.symm
    obtain ⟨B2, hB2⟩ : ∃ b, b = (B1 || C1) := ⟨_, rfl⟩
    have HB2 := hid_of hB2
    obtain ⟨C2, hC2⟩ : ∃ b, b = decide (x2 < 1) := ⟨_, rfl⟩
    have HC2 : Hid (decide (x2 < 1) = C2) := hC2.symm
    obtain ⟨B3, hB3⟩ : ∃ b, b = (B2 || C2) := ⟨_, rfl⟩
    have HB3 := hid_of hB3
    obtain ⟨C3, hC3⟩ : ∃ b, b = decide (2147483648 ≤ x2) := ⟨_, rfl⟩
    have HC3 : Hid (decide (2147483648 ≤ x2) = C3) := hC3.symm
    obtain ⟨B4, hB4⟩ : ∃ b, b = (B3 || C3) := ⟨_, rfl⟩
    have HB4 := hid_of hB4
    obtain ⟨C4, hC4⟩ : ∃ b, b = decide (2147483648 ≤ x3) := ⟨_, rfl⟩
    have HC4 : Hid (decide (2147483648 ≤ x3) = C4) := hC4.symm
    obtain ⟨B5, hB5⟩ : ∃ b, b = (B4 || C4) := ⟨_, rfl⟩
    have HB5 := hid_of hB5
    obtain ⟨C5, hC5⟩ : ∃ b, b = decide (4096 ≤ x4) := ⟨_, rfl⟩
    have HC5 : Hid (decide (4096 ≤ x4) = C5) := hC5.symm
    obtain ⟨B6, hB6⟩ : ∃ b, b = (B5 || C5) := ⟨_, rfl⟩
    have HB6 := hid_of hB6
    obtain ⟨C6, hC6⟩ : ∃ b, b = decide (x5 < 1) := ⟨_, rfl⟩
    have HC6 : Hid (decide (x5 < 1) = C6) := hC6.symm
    obtain ⟨B7, hB7⟩ : ∃ b, b = (B6 || C6) := ⟨_, rfl⟩
    have HB7 := hid_of hB7
    obtain ⟨C7, hC7⟩ : ∃ b, b = decide (1024 < x5) := ⟨_, rfl⟩
    have HC7 : Hid (decide (1024 < x5) = C7) := hC7.symm
    obtain ⟨B8, hB8⟩ : ∃ b, b = (B7 || C7) := ⟨_, rfl⟩
    have HB8 := hid_of hB8
    have HEND : Hid (B8 = !decide (isSu l)) := by
      show _ = _
      rw [hB8, hB7, hB6, hB5, hB4, hB3, hB2, hB1, hB0, hC0, hC1, hC2, hC3, hC4, hC5, hC6, hC7]
      by_cases hs : isSu l
      · rw [decide_eq_true hs]
        obtain ⟨s1, s2, s3⟩ := hs
        rw [← hx, ← hx5] at s2 s3
        rw [← hP] at s2
        obtain ⟨⟨t1, t2⟩, ⟨t3, t4⟩, t5, t6, t7, t8⟩ := s3
        have t1' : (1 : Int) ≤ x1 := t1
        have t2' : x1 < 2147483648 := t2
        have t3' : (1 : Int) ≤ x2 := t3
        have t4' : x2 < 2147483648 := t4
        have t5' : x3 < 2147483648 := t5
        have t6' : x4 < 4096 := t6
        rw [decide_eq_false (fun e => e s2), decide_eq_false (by omega), decide_eq_false (by omega), decide_eq_false (by omega), decide_eq_false (by omega), decide_eq_false (by omega), decide_eq_false (by omega), decide_eq_false (by omega), decide_eq_false (by omega)]
        rfl
      · rw [decide_eq_false hs]
        have hs2 : ¬ (P = l ∧ maySu ⟨x1, x2, x3, x4⟩ x5) := fun h => hs ⟨hl, by rw [← hx, ← hx5, ← hP]; exact h.1, by rw [← hx, ← hx5]; exact h.2⟩
        by_cases q0 : P = l
        · have q1 : ¬ maySu ⟨x1, x2, x3, x4⟩ x5 := fun h => hs2 ⟨q0, h⟩
          have q2 : x1 < 1 ∨ 2147483648 ≤ x1 ∨ x2 < 1 ∨ 2147483648 ≤ x2 ∨ 2147483648 ≤ x3 ∨ 4096 ≤ x4 ∨ x5 < 1 ∨ 1024 < x5 := by
            refine Classical.byContradiction fun hn => q1 ⟨⟨?_, ?_⟩, ⟨?_, ?_⟩, ?_, ?_, ?_, ?_⟩
            · show 1 ≤ x1; omega
            · show x1 < 2147483648; omega
            · show 1 ≤ x2; omega
            · show x2 < 2147483648; omega
            · show x3 < 2147483648; omega
            · show x4 < 4096; omega
            · omega
            · omega
          rcases q2 with h | h | h | h | h | h | h | h <;> simp [h]
        · rw [decide_eq_true q0]; simp
    have HXX := hid_of hx
    have HXF := hid_of hx5
    clear hx hx5
    go_upto_region 5 with fail
    clear hB0 hB1 hB2 hB3 hB4 hB5 hB6 hB7 hB8 hC0 hC1 hC2 hC3 hC4 hC5 hC6 hC7 hsP hsL hPl hP256 hP hBB hi1 hi2 hi3 hi4 hi5 ex1 ex2 ex3 ex4
    refine wp_region_each (UpA a cap rx g k2 sx q x1 x2 x3 x4) (fun _ => undef) (UpR a cap g k2 sx x1 x2 x3 x4 x5 P sP sL B0 B1 B2 B3 B4 B5 B6 B7 B8 C0 C1 C2 C3 C4 C5 C6 C7) Stay (fun w => Below B w3 w) (by kernel_rfl) rfl (by kernel_rfl) HB0'.out UpR.stay ?_ ?_
    · refine ⟨?_, ?_, ?_, ?_, ?_, ?_, ?_, ?_, ?_, ?_, ?_, ?_, ?_, ?_, ?_, ?_, ?_, ?_, ?_, ?_, ?_, ?_, ?_, ?_, ?_, ?_, ?_, ?_, ?_, ?_, ?_, ?_, ?_, ?_, ?_, ?_, ?_, ?_, ?_, ?_, ?_, ?_, ?_, ?_, ?_, ?_, ?_, ?_, ?_, ?_, ?_, trivial⟩
      · -- 0
        intro vs w hS hd
        obtain ⟨k0, k1, k2', k3⟩ := HCS.out w hS
        unfold UpA
        go_wp2_with fail
        exact ⟨rfl, _, rfl, rfl, Stay.refl _, hS⟩
      · -- 1
        intro vs w hS hd
        unfold UpA
        go_wp2_with fail
        exact ⟨rfl, _, rfl, rfl, Stay.refl _, hS⟩
      · -- 2
        intro vs w hS hd
        have f1 : UpR a cap g k2 sx x1 x2 x3 x4 x5 P sP sL B0 B1 B2 B3 B4 B5 B6 B7 B8 C0 C1 C2 C3 C4 C5 C6 C7 1 (vs 1) w := by first | exact hd.1 rfl | exact hd.2.1 rfl | exact hd.2.2.1 rfl | exact hd.2.2.2.1 rfl | exact hd.2.2.2.2.1 rfl
        change vs 1 = .slice (some ⟨g, 0, none⟩) 5 k2 at f1
        unfold UpA
        go_wp2_with fail
        exact ⟨rfl, _, (by simp [upd, f1]), rfl, Stay.refl _, hS⟩
      · -- 3
        intro vs w hS hd
        have f2 : UpR a cap g k2 sx x1 x2 x3 x4 x5 P sP sL B0 B1 B2 B3 B4 B5 B6 B7 B8 C0 C1 C2 C3 C4 C5 C6 C7 2 (vs 2) w := by first | exact hd.1 rfl | exact hd.2.1 rfl | exact hd.2.2.1 rfl | exact hd.2.2.2.1 rfl | exact hd.2.2.2.2.1 rfl
        change vs 2 = .pointer (some ⟨g, 4, none⟩) at f2
        have k4 := HG5.out w hS
        unfold UpA
        go_wp2_with fail
        exact ⟨rfl, _, (by simp [upd, f2]), rfl, Stay.refl _, hS⟩
      · -- 4
        intro vs w hS hd
        have f0 : UpR a cap g k2 sx x1 x2 x3 x4 x5 P sP sL B0 B1 B2 B3 B4 B5 B6 B7 B8 C0 C1 C2 C3 C4 C5 C6 C7 0 (vs 0) w := by first | exact hd.1 rfl | exact hd.2.1 rfl | exact hd.2.2.1 rfl | exact hd.2.2.2.1 rfl | exact hd.2.2.2.2.1 rfl
        change vs 0 = .agg #[.int .i64 x1, .int .i64 x2, .int .i64 x3, .int .i64 x4] at f0
        have f3 : UpR a cap g k2 sx x1 x2 x3 x4 x5 P sP sL B0 B1 B2 B3 B4 B5 B6 B7 B8 C0 C1 C2 C3 C4 C5 C6 C7 3 (vs 3) w := by first | exact hd.1 rfl | exact hd.2.1 rfl | exact hd.2.2.1 rfl | exact hd.2.2.2.1 rfl | exact hd.2.2.2.2.1 rfl
        change vs 3 = .int .i64 x5 at f3
        have HP := hid_of (HPK.out w)
        have hBw : B ≤ w.heap.size := by have := hS.size; have := HBS.out; omega
        unfold UpA
        go_wp2_with fail
        refine HP.out.mono ?_
        rintro e w4 ⟨g4, k4, rfl, ho4, hb4⟩
        go_wp2_with fail
        exact ⟨rfl, _, (by simp [upd, f0, f3]), ⟨_, _, rfl, ho4⟩, Stay.of_below hb4, hS.trans (hb4.mono hBw)⟩
      · -- 5
        intro vs w hS hd
        have f4 : UpR a cap g k2 sx x1 x2 x3 x4 x5 P sP sL B0 B1 B2 B3 B4 B5 B6 B7 B8 C0 C1 C2 C3 C4 C5 C6 C7 4 (vs 4) w := by first | exact hd.1 rfl | exact hd.2.1 rfl | exact hd.2.2.1 rfl | exact hd.2.2.2.1 rfl | exact hd.2.2.2.2.1 rfl
        change RowV w 128 P (vs 4) at f4
        obtain ⟨a4, c4, f5, b4⟩ := f4
        have kc := HSP.out w a4 c4 b4
        unfold UpA
        go_wp2_with fail
        exact ⟨rfl, _, (by simp [upd, f5]), rfl, Stay.refl _, hS⟩
      · -- 6
        intro vs w hS hd
        unfold UpA
        go_wp2_with fail
        exact ⟨rfl, _, rfl, rfl, Stay.refl _, hS⟩
      · -- 7
        intro vs w hS hd
        have f6 : UpR a cap g k2 sx x1 x2 x3 x4 x5 P sP sL B0 B1 B2 B3 B4 B5 B6 B7 B8 C0 C1 C2 C3 C4 C5 C6 C7 6 (vs 6) w := by first | exact hd.1 rfl | exact hd.2.1 rfl | exact hd.2.2.1 rfl | exact hd.2.2.2.1 rfl | exact hd.2.2.2.2.1 rfl
        change vs 6 = .slice a 128 cap at f6
        have kc := HSL.out w hS
        unfold UpA
        go_wp2_with fail
        exact ⟨rfl, _, (by simp [upd, f6]), rfl, Stay.refl _, hS⟩
      · -- 8
        intro vs w hS hd
        have f5 : UpR a cap g k2 sx x1 x2 x3 x4 x5 P sP sL B0 B1 B2 B3 B4 B5 B6 B7 B8 C0 C1 C2 C3 C4 C5 C6 C7 5 (vs 5) w := by first | exact hd.1 rfl | exact hd.2.1 rfl | exact hd.2.2.1 rfl | exact hd.2.2.2.1 rfl | exact hd.2.2.2.2.1 rfl
        change vs 5 = .string sP at f5
        have f7 : UpR a cap g k2 sx x1 x2 x3 x4 x5 P sP sL B0 B1 B2 B3 B4 B5 B6 B7 B8 C0 C1 C2 C3 C4 C5 C6 C7 7 (vs 7) w := by first | exact hd.1 rfl | exact hd.2.1 rfl | exact hd.2.2.1 rfl | exact hd.2.2.2.1 rfl | exact hd.2.2.2.2.1 rfl
        change vs 7 = .string sL at f7
        have hq := HQ.out
        unfold UpA
        go_wp2_with fail
        exact ⟨rfl, .bool B0, (by simp [upd, f5, f7, hq]), rfl, Stay.refl _, hS⟩
      · -- 9
        intro vs w hS hd
        have f : UpR a cap g k2 sx x1 x2 x3 x4 x5 P sP sL B0 B1 B2 B3 B4 B5 B6 B7 B8 C0 C1 C2 C3 C4 C5 C6 C7 8 (vs 8) w := by first | exact hd.1 rfl | exact hd.2.1 rfl | exact hd.2.2.1 rfl | exact hd.2.2.2.1 rfl | exact hd.2.2.2.2.1 rfl
        change vs 8 = .bool B0 at f
        unfold UpA
        go_wp2_with fail
        exact ⟨rfl, _, (by simp [upd, f]), rfl, Stay.refl _, hS⟩
      · -- 10
        intro vs w hS hd
        have fg : UpR a cap g k2 sx x1 x2 x3 x4 x5 P sP sL B0 B1 B2 B3 B4 B5 B6 B7 B8 C0 C1 C2 C3 C4 C5 C6 C7 9 (vs 9) w := by first | exact hd.1 rfl | exact hd.2.1 rfl | exact hd.2.2.1 rfl | exact hd.2.2.2.1 rfl | exact hd.2.2.2.2.1 rfl
        change vs 9 = .bool B0 at fg
        cases B0
        · unfold UpA
          go_wp2_with fail
          exact ⟨rfl, _, (by simp [upd, fg]), (fun _ => rfl), Stay.refl _, hS⟩
        · unfold UpA
          go_wp2_with fail
          exact ⟨rfl, undef, (by simp [upd, fg]), (fun h => by cases h), Stay.refl _, hS⟩
      · -- 11
        intro vs w hS hd
        have f : UpR a cap g k2 sx x1 x2 x3 x4 x5 P sP sL B0 B1 B2 B3 B4 B5 B6 B7 B8 C0 C1 C2 C3 C4 C5 C6 C7 10 (vs 10) w := by first | exact hd.1 rfl | exact hd.2.1 rfl | exact hd.2.2.1 rfl | exact hd.2.2.2.1 rfl | exact hd.2.2.2.2.1 rfl
        change B0 = false → vs 10 = .pointer (some ⟨sx, 0, none⟩) at f
        have fg : UpR a cap g k2 sx x1 x2 x3 x4 x5 P sP sL B0 B1 B2 B3 B4 B5 B6 B7 B8 C0 C1 C2 C3 C4 C5 C6 C7 9 (vs 9) w := by first | exact hd.1 rfl | exact hd.2.1 rfl | exact hd.2.2.1 rfl | exact hd.2.2.2.1 rfl | exact hd.2.2.2.2.1 rfl
        change vs 9 = .bool B0 at fg
        cases B0
        · have f' := f rfl
          obtain ⟨k0, k1, k2', k3⟩ := HCS.out w hS
          clear f
          unfold UpA
          go_wp2_with fail
          exact ⟨rfl, _, (by simp [upd, fg, f']), (fun _ => rfl), Stay.refl _, hS⟩
        · unfold UpA
          go_wp2_with fail
          exact ⟨rfl, undef, (by simp [upd, fg]), (fun h => by cases h), Stay.refl _, hS⟩
      · -- 12
        intro vs w hS hd
        have f : UpR a cap g k2 sx x1 x2 x3 x4 x5 P sP sL B0 B1 B2 B3 B4 B5 B6 B7 B8 C0 C1 C2 C3 C4 C5 C6 C7 11 (vs 11) w := by first | exact hd.1 rfl | exact hd.2.1 rfl | exact hd.2.2.1 rfl | exact hd.2.2.2.1 rfl | exact hd.2.2.2.2.1 rfl
        change B0 = false → vs 11 = .int .i64 x1 at f
        have fg : UpR a cap g k2 sx x1 x2 x3 x4 x5 P sP sL B0 B1 B2 B3 B4 B5 B6 B7 B8 C0 C1 C2 C3 C4 C5 C6 C7 9 (vs 9) w := by first | exact hd.1 rfl | exact hd.2.1 rfl | exact hd.2.2.1 rfl | exact hd.2.2.2.1 rfl | exact hd.2.2.2.2.1 rfl
        change vs 9 = .bool B0 at fg
        cases B0
        · have f' := f rfl
          have hc := HC0.out
          clear f
          unfold UpA
          go_wp2_with fail
          exact ⟨rfl, .bool C0, (by simp [upd, fg, f', hc]), (fun _ => rfl), Stay.refl _, hS⟩
        · unfold UpA
          go_wp2_with fail
          exact ⟨rfl, undef, (by simp [upd, fg]), (fun h => by cases h), Stay.refl _, hS⟩
      · -- 13
        intro vs w hS hd
        have fg : UpR a cap g k2 sx x1 x2 x3 x4 x5 P sP sL B0 B1 B2 B3 B4 B5 B6 B7 B8 C0 C1 C2 C3 C4 C5 C6 C7 9 (vs 9) w := by first | exact hd.1 rfl | exact hd.2.1 rfl | exact hd.2.2.1 rfl | exact hd.2.2.2.1 rfl | exact hd.2.2.2.2.1 rfl
        change vs 9 = .bool B0 at fg
        have f : UpR a cap g k2 sx x1 x2 x3 x4 x5 P sP sL B0 B1 B2 B3 B4 B5 B6 B7 B8 C0 C1 C2 C3 C4 C5 C6 C7 12 (vs 12) w := by first | exact hd.1 rfl | exact hd.2.1 rfl | exact hd.2.2.1 rfl | exact hd.2.2.2.1 rfl | exact hd.2.2.2.2.1 rfl
        change B0 = false → vs 12 = .bool C0 at f
        have hb := HB1.out
        cases B0
        · have f' := f rfl
          obtain rfl : B1 = C0 := by rw [hb]; rfl
          clear f hb
          unfold UpA
          go_wp2_with fail
          exact ⟨rfl, _, (by simp [upd, fg, f']), rfl, Stay.refl _, hS⟩
        · obtain rfl : B1 = true := by rw [hb]; rfl
          clear f hb
          unfold UpA
          go_wp2_with fail
          exact ⟨rfl, _, (by simp [upd, fg]), rfl, Stay.refl _, hS⟩
      · -- 14
        intro vs w hS hd
        have f : UpR a cap g k2 sx x1 x2 x3 x4 x5 P sP sL B0 B1 B2 B3 B4 B5 B6 B7 B8 C0 C1 C2 C3 C4 C5 C6 C7 13 (vs 13) w := by first | exact hd.1 rfl | exact hd.2.1 rfl | exact hd.2.2.1 rfl | exact hd.2.2.2.1 rfl | exact hd.2.2.2.2.1 rfl
        change vs 13 = .bool B1 at f
        unfold UpA
        go_wp2_with fail
        exact ⟨rfl, _, (by simp [upd, f]), rfl, Stay.refl _, hS⟩
      · -- 15
        intro vs w hS hd
        have fg : UpR a cap g k2 sx x1 x2 x3 x4 x5 P sP sL B0 B1 B2 B3 B4 B5 B6 B7 B8 C0 C1 C2 C3 C4 C5 C6 C7 14 (vs 14) w := by first | exact hd.1 rfl | exact hd.2.1 rfl | exact hd.2.2.1 rfl | exact hd.2.2.2.1 rfl | exact hd.2.2.2.2.1 rfl
        change vs 14 = .bool B1 at fg
        cases B1
        · unfold UpA
          go_wp2_with fail
          exact ⟨rfl, _, (by simp [upd, fg]), (fun _ => rfl), Stay.refl _, hS⟩
        · unfold UpA
          go_wp2_with fail
          exact ⟨rfl, undef, (by simp [upd, fg]), (fun h => by cases h), Stay.refl _, hS⟩
      · -- 16
        intro vs w hS hd
        have f : UpR a cap g k2 sx x1 x2 x3 x4 x5 P sP sL B0 B1 B2 B3 B4 B5 B6 B7 B8 C0 C1 C2 C3 C4 C5 C6 C7 15 (vs 15) w := by first | exact hd.1 rfl | exact hd.2.1 rfl | exact hd.2.2.1 rfl | exact hd.2.2.2.1 rfl | exact hd.2.2.2.2.1 rfl
        change B1 = false → vs 15 = .pointer (some ⟨sx, 0, none⟩) at f
        have fg : UpR a cap g k2 sx x1 x2 x3 x4 x5 P sP sL B0 B1 B2 B3 B4 B5 B6 B7 B8 C0 C1 C2 C3 C4 C5 C6 C7 14 (vs 14) w := by first | exact hd.1 rfl | exact hd.2.1 rfl | exact hd.2.2.1 rfl | exact hd.2.2.2.1 rfl | exact hd.2.2.2.2.1 rfl
        change vs 14 = .bool B1 at fg
        cases B1
        · have f' := f rfl
          obtain ⟨k0, k1, k2', k3⟩ := HCS.out w hS
          clear f
          unfold UpA
          go_wp2_with fail
          exact ⟨rfl, _, (by simp [upd, fg, f']), (fun _ => rfl), Stay.refl _, hS⟩
        · unfold UpA
          go_wp2_with fail
          exact ⟨rfl, undef, (by simp [upd, fg]), (fun h => by cases h), Stay.refl _, hS⟩
      · -- 17
        intro vs w hS hd
        have f : UpR a cap g k2 sx x1 x2 x3 x4 x5 P sP sL B0 B1 B2 B3 B4 B5 B6 B7 B8 C0 C1 C2 C3 C4 C5 C6 C7 16 (vs 16) w := by first | exact hd.1 rfl | exact hd.2.1 rfl | exact hd.2.2.1 rfl | exact hd.2.2.2.1 rfl | exact hd.2.2.2.2.1 rfl
        change B1 = false → vs 16 = .int .i64 x1 at f
        have fg : UpR a cap g k2 sx x1 x2 x3 x4 x5 P sP sL B0 B1 B2 B3 B4 B5 B6 B7 B8 C0 C1 C2 C3 C4 C5 C6 C7 14 (vs 14) w := by first | exact hd.1 rfl | exact hd.2.1 rfl | exact hd.2.2.1 rfl | exact hd.2.2.2.1 rfl | exact hd.2.2.2.2.1 rfl
        change vs 14 = .bool B1 at fg
        cases B1
        · have f' := f rfl
          have hc := HC1.out
          clear f
          unfold UpA
          go_wp2_with fail
          exact ⟨rfl, .bool C1, (by simp [upd, fg, f', hc]), (fun _ => rfl), Stay.refl _, hS⟩
        · unfold UpA
          go_wp2_with fail
          exact ⟨rfl, undef, (by simp [upd, fg]), (fun h => by cases h), Stay.refl _, hS⟩
      · -- 18
        intro vs w hS hd
        have fg : UpR a cap g k2 sx x1 x2 x3 x4 x5 P sP sL B0 B1 B2 B3 B4 B5 B6 B7 B8 C0 C1 C2 C3 C4 C5 C6 C7 14 (vs 14) w := by first | exact hd.1 rfl | exact hd.2.1 rfl | exact hd.2.2.1 rfl | exact hd.2.2.2.1 rfl | exact hd.2.2.2.2.1 rfl
        change vs 14 = .bool B1 at fg
        have f : UpR a cap g k2 sx x1 x2 x3 x4 x5 P sP sL B0 B1 B2 B3 B4 B5 B6 B7 B8 C0 C1 C2 C3 C4 C5 C6 C7 17 (vs 17) w := by first | exact hd.1 rfl | exact hd.2.1 rfl | exact hd.2.2.1 rfl | exact hd.2.2.2.1 rfl | exact hd.2.2.2.2.1 rfl
        change B1 = false → vs 17 = .bool C1 at f
        have hb := HB2.out
        cases B1
        · have f' := f rfl
          obtain rfl : B2 = C1 := by rw [hb]; rfl
          clear f hb
          unfold UpA
          go_wp2_with fail
          exact ⟨rfl, _, (by simp [upd, fg, f']), rfl, Stay.refl _, hS⟩
        · obtain rfl : B2 = true := by rw [hb]; rfl
          clear f hb
          unfold UpA
          go_wp2_with fail
          exact ⟨rfl, _, (by simp [upd, fg]), rfl, Stay.refl _, hS⟩
      · -- 19
        intro vs w hS hd
        have f : UpR a cap g k2 sx x1 x2 x3 x4 x5 P sP sL B0 B1 B2 B3 B4 B5 B6 B7 B8 C0 C1 C2 C3 C4 C5 C6 C7 18 (vs 18) w := by first | exact hd.1 rfl | exact hd.2.1 rfl | exact hd.2.2.1 rfl | exact hd.2.2.2.1 rfl | exact hd.2.2.2.2.1 rfl
        change vs 18 = .bool B2 at f
        unfold UpA
        go_wp2_with fail
        exact ⟨rfl, _, (by simp [upd, f]), rfl, Stay.refl _, hS⟩
      · -- 20
        intro vs w hS hd
        have fg : UpR a cap g k2 sx x1 x2 x3 x4 x5 P sP sL B0 B1 B2 B3 B4 B5 B6 B7 B8 C0 C1 C2 C3 C4 C5 C6 C7 19 (vs 19) w := by first | exact hd.1 rfl | exact hd.2.1 rfl | exact hd.2.2.1 rfl | exact hd.2.2.2.1 rfl | exact hd.2.2.2.2.1 rfl
        change vs 19 = .bool B2 at fg
        cases B2
        · unfold UpA
          go_wp2_with fail
          exact ⟨rfl, _, (by simp [upd, fg]), (fun _ => rfl), Stay.refl _, hS⟩
        · unfold UpA
          go_wp2_with fail
          exact ⟨rfl, undef, (by simp [upd, fg]), (fun h => by cases h), Stay.refl _, hS⟩
      · -- 21
        intro vs w hS hd
        have f : UpR a cap g k2 sx x1 x2 x3 x4 x5 P sP sL B0 B1 B2 B3 B4 B5 B6 B7 B8 C0 C1 C2 C3 C4 C5 C6 C7 20 (vs 20) w := by first | exact hd.1 rfl | exact hd.2.1 rfl | exact hd.2.2.1 rfl | exact hd.2.2.2.1 rfl | exact hd.2.2.2.2.1 rfl
        change B2 = false → vs 20 = .pointer (some ⟨sx, 1, none⟩) at f
        have fg : UpR a cap g k2 sx x1 x2 x3 x4 x5 P sP sL B0 B1 B2 B3 B4 B5 B6 B7 B8 C0 C1 C2 C3 C4 C5 C6 C7 19 (vs 19) w := by first | exact hd.1 rfl | exact hd.2.1 rfl | exact hd.2.2.1 rfl | exact hd.2.2.2.1 rfl | exact hd.2.2.2.2.1 rfl
        change vs 19 = .bool B2 at fg
        cases B2
        · have f' := f rfl
          obtain ⟨k0, k1, k2', k3⟩ := HCS.out w hS
          clear f
          unfold UpA
          go_wp2_with fail
          exact ⟨rfl, _, (by simp [upd, fg, f']), (fun _ => rfl), Stay.refl _, hS⟩
        · unfold UpA
          go_wp2_with fail
          exact ⟨rfl, undef, (by simp [upd, fg]), (fun h => by cases h), Stay.refl _, hS⟩
      · -- 22
        intro vs w hS hd
        have f : UpR a cap g k2 sx x1 x2 x3 x4 x5 P sP sL B0 B1 B2 B3 B4 B5 B6 B7 B8 C0 C1 C2 C3 C4 C5 C6 C7 21 (vs 21) w := by first | exact hd.1 rfl | exact hd.2.1 rfl | exact hd.2.2.1 rfl | exact hd.2.2.2.1 rfl | exact hd.2.2.2.2.1 rfl
        change B2 = false → vs 21 = .int .i64 x2 at f
        have fg : UpR a cap g k2 sx x1 x2 x3 x4 x5 P sP sL B0 B1 B2 B3 B4 B5 B6 B7 B8 C0 C1 C2 C3 C4 C5 C6 C7 19 (vs 19) w := by first | exact hd.1 rfl | exact hd.2.1 rfl | exact hd.2.2.1 rfl | exact hd.2.2.2.1 rfl | exact hd.2.2.2.2.1 rfl
        change vs 19 = .bool B2 at fg
        cases B2
        · have f' := f rfl
          have hc := HC2.out
          clear f
          unfold UpA
          go_wp2_with fail
          exact ⟨rfl, .bool C2, (by simp [upd, fg, f', hc]), (fun _ => rfl), Stay.refl _, hS⟩
        · unfold UpA
          go_wp2_with fail
          exact ⟨rfl, undef, (by simp [upd, fg]), (fun h => by cases h), Stay.refl _, hS⟩
      · -- 23
        intro vs w hS hd
        have fg : UpR a cap g k2 sx x1 x2 x3 x4 x5 P sP sL B0 B1 B2 B3 B4 B5 B6 B7 B8 C0 C1 C2 C3 C4 C5 C6 C7 19 (vs 19) w := by first | exact hd.1 rfl | exact hd.2.1 rfl | exact hd.2.2.1 rfl | exact hd.2.2.2.1 rfl | exact hd.2.2.2.2.1 rfl
        change vs 19 = .bool B2 at fg
        have f : UpR a cap g k2 sx x1 x2 x3 x4 x5 P sP sL B0 B1 B2 B3 B4 B5 B6 B7 B8 C0 C1 C2 C3 C4 C5 C6 C7 22 (vs 22) w := by first | exact hd.1 rfl | exact hd.2.1 rfl | exact hd.2.2.1 rfl | exact hd.2.2.2.1 rfl | exact hd.2.2.2.2.1 rfl
        change B2 = false → vs 22 = .bool C2 at f
        have hb := HB3.out
        cases B2
        · have f' := f rfl
          obtain rfl : B3 = C2 := by rw [hb]; rfl
          clear f hb
          unfold UpA
          go_wp2_with fail
          exact ⟨rfl, _, (by simp [upd, fg, f']), rfl, Stay.refl _, hS⟩
        · obtain rfl : B3 = true := by rw [hb]; rfl
          clear f hb
          unfold UpA
          go_wp2_with fail
          exact ⟨rfl, _, (by simp [upd, fg]), rfl, Stay.refl _, hS⟩
      · -- 24
        intro vs w hS hd
        have f : UpR a cap g k2 sx x1 x2 x3 x4 x5 P sP sL B0 B1 B2 B3 B4 B5 B6 B7 B8 C0 C1 C2 C3 C4 C5 C6 C7 23 (vs 23) w := by first | exact hd.1 rfl | exact hd.2.1 rfl | exact hd.2.2.1 rfl | exact hd.2.2.2.1 rfl | exact hd.2.2.2.2.1 rfl
        change vs 23 = .bool B3 at f
        unfold UpA
        go_wp2_with fail
        exact ⟨rfl, _, (by simp [upd, f]), rfl, Stay.refl _, hS⟩
      · -- 25
        intro vs w hS hd
        have fg : UpR a cap g k2 sx x1 x2 x3 x4 x5 P sP sL B0 B1 B2 B3 B4 B5 B6 B7 B8 C0 C1 C2 C3 C4 C5 C6 C7 24 (vs 24) w := by first | exact hd.1 rfl | exact hd.2.1 rfl | exact hd.2.2.1 rfl | exact hd.2.2.2.1 rfl | exact hd.2.2.2.2.1 rfl
        change vs 24 = .bool B3 at fg
        cases B3
        · unfold UpA
          go_wp2_with fail
          exact ⟨rfl, _, (by simp [upd, fg]), (fun _ => rfl), Stay.refl _, hS⟩
        · unfold UpA
          go_wp2_with fail
          exact ⟨rfl, undef, (by simp [upd, fg]), (fun h => by cases h), Stay.refl _, hS⟩
      · -- 26
        intro vs w hS hd
        have f : UpR a cap g k2 sx x1 x2 x3 x4 x5 P sP sL B0 B1 B2 B3 B4 B5 B6 B7 B8 C0 C1 C2 C3 C4 C5 C6 C7 25 (vs 25) w := by first | exact hd.1 rfl | exact hd.2.1 rfl | exact hd.2.2.1 rfl | exact hd.2.2.2.1 rfl | exact hd.2.2.2.2.1 rfl
        change B3 = false → vs 25 = .pointer (some ⟨sx, 1, none⟩) at f
        have fg : UpR a cap g k2 sx x1 x2 x3 x4 x5 P sP sL B0 B1 B2 B3 B4 B5 B6 B7 B8 C0 C1 C2 C3 C4 C5 C6 C7 24 (vs 24) w := by first | exact hd.1 rfl | exact hd.2.1 rfl | exact hd.2.2.1 rfl | exact hd.2.2.2.1 rfl | exact hd.2.2.2.2.1 rfl
        change vs 24 = .bool B3 at fg
        cases B3
        · have f' := f rfl
          obtain ⟨k0, k1, k2', k3⟩ := HCS.out w hS
          clear f
          unfold UpA
          go_wp2_with fail
          exact ⟨rfl, _, (by simp [upd, fg, f']), (fun _ => rfl), Stay.refl _, hS⟩
        · unfold UpA
          go_wp2_with fail
          exact ⟨rfl, undef, (by simp [upd, fg]), (fun h => by cases h), Stay.refl _, hS⟩
      · -- 27
        intro vs w hS hd
        have f : UpR a cap g k2 sx x1 x2 x3 x4 x5 P sP sL B0 B1 B2 B3 B4 B5 B6 B7 B8 C0 C1 C2 C3 C4 C5 C6 C7 26 (vs 26) w := by first | exact hd.1 rfl | exact hd.2.1 rfl | exact hd.2.2.1 rfl | exact hd.2.2.2.1 rfl | exact hd.2.2.2.2.1 rfl
        change B3 = false → vs 26 = .int .i64 x2 at f
        have fg : UpR a cap g k2 sx x1 x2 x3 x4 x5 P sP sL B0 B1 B2 B3 B4 B5 B6 B7 B8 C0 C1 C2 C3 C4 C5 C6 C7 24 (vs 24) w := by first | exact hd.1 rfl | exact hd.2.1 rfl | exact hd.2.2.1 rfl | exact hd.2.2.2.1 rfl | exact hd.2.2.2.2.1 rfl
        change vs 24 = .bool B3 at fg
        cases B3
        · have f' := f rfl
          have hc := HC3.out
          clear f
          unfold UpA
          go_wp2_with fail
          exact ⟨rfl, .bool C3, (by simp [upd, fg, f', hc]), (fun _ => rfl), Stay.refl _, hS⟩
        · unfold UpA
          go_wp2_with fail
          exact ⟨rfl, undef, (by simp [upd, fg]), (fun h => by cases h), Stay.refl _, hS⟩
      · -- 28
        intro vs w hS hd
        have fg : UpR a cap g k2 sx x1 x2 x3 x4 x5 P sP sL B0 B1 B2 B3 B4 B5 B6 B7 B8 C0 C1 C2 C3 C4 C5 C6 C7 24 (vs 24) w := by first | exact hd.1 rfl | exact hd.2.1 rfl | exact hd.2.2.1 rfl | exact hd.2.2.2.1 rfl | exact hd.2.2.2.2.1 rfl
        change vs 24 = .bool B3 at fg
        have f : UpR a cap g k2 sx x1 x2 x3 x4 x5 P sP sL B0 B1 B2 B3 B4 B5 B6 B7 B8 C0 C1 C2 C3 C4 C5 C6 C7 27 (vs 27) w := by first | exact hd.1 rfl | exact hd.2.1 rfl | exact hd.2.2.1 rfl | exact hd.2.2.2.1 rfl | exact hd.2.2.2.2.1 rfl
        change B3 = false → vs 27 = .bool C3 at f
        have hb := HB4.out
        cases B3
        · have f' := f rfl
          obtain rfl : B4 = C3 := by rw [hb]; rfl
          clear f hb
          unfold UpA
          go_wp2_with fail
          exact ⟨rfl, _, (by simp [upd, fg, f']), rfl, Stay.refl _, hS⟩
        · obtain rfl : B4 = true := by rw [hb]; rfl
          clear f hb
          unfold UpA
          go_wp2_with fail
          exact ⟨rfl, _, (by simp [upd, fg]), rfl, Stay.refl _, hS⟩
      · -- 29
        intro vs w hS hd
        have f : UpR a cap g k2 sx x1 x2 x3 x4 x5 P sP sL B0 B1 B2 B3 B4 B5 B6 B7 B8 C0 C1 C2 C3 C4 C5 C6 C7 28 (vs 28) w := by first | exact hd.1 rfl | exact hd.2.1 rfl | exact hd.2.2.1 rfl | exact hd.2.2.2.1 rfl | exact hd.2.2.2.2.1 rfl
        change vs 28 = .bool B4 at f
        unfold UpA
        go_wp2_with fail
        exact ⟨rfl, _, (by simp [upd, f]), rfl, Stay.refl _, hS⟩
      · -- 30
        intro vs w hS hd
        have fg : UpR a cap g k2 sx x1 x2 x3 x4 x5 P sP sL B0 B1 B2 B3 B4 B5 B6 B7 B8 C0 C1 C2 C3 C4 C5 C6 C7 29 (vs 29) w := by first | exact hd.1 rfl | exact hd.2.1 rfl | exact hd.2.2.1 rfl | exact hd.2.2.2.1 rfl | exact hd.2.2.2.2.1 rfl
        change vs 29 = .bool B4 at fg
        cases B4
        · unfold UpA
          go_wp2_with fail
          exact ⟨rfl, _, (by simp [upd, fg]), (fun _ => rfl), Stay.refl _, hS⟩
        · unfold UpA
          go_wp2_with fail
          exact ⟨rfl, undef, (by simp [upd, fg]), (fun h => by cases h), Stay.refl _, hS⟩
      · -- 31
        intro vs w hS hd
        have f : UpR a cap g k2 sx x1 x2 x3 x4 x5 P sP sL B0 B1 B2 B3 B4 B5 B6 B7 B8 C0 C1 C2 C3 C4 C5 C6 C7 30 (vs 30) w := by first | exact hd.1 rfl | exact hd.2.1 rfl | exact hd.2.2.1 rfl | exact hd.2.2.2.1 rfl | exact hd.2.2.2.2.1 rfl
        change B4 = false → vs 30 = .pointer (some ⟨sx, 2, none⟩) at f
        have fg : UpR a cap g k2 sx x1 x2 x3 x4 x5 P sP sL B0 B1 B2 B3 B4 B5 B6 B7 B8 C0 C1 C2 C3 C4 C5 C6 C7 29 (vs 29) w := by first | exact hd.1 rfl | exact hd.2.1 rfl | exact hd.2.2.1 rfl | exact hd.2.2.2.1 rfl | exact hd.2.2.2.2.1 rfl
        change vs 29 = .bool B4 at fg
        cases B4
        · have f' := f rfl
          obtain ⟨k0, k1, k2', k3⟩ := HCS.out w hS
          clear f
          unfold UpA
          go_wp2_with fail
          exact ⟨rfl, _, (by simp [upd, fg, f']), (fun _ => rfl), Stay.refl _, hS⟩
        · unfold UpA
          go_wp2_with fail
          exact ⟨rfl, undef, (by simp [upd, fg]), (fun h => by cases h), Stay.refl _, hS⟩
      · -- 32
        intro vs w hS hd
        have f : UpR a cap g k2 sx x1 x2 x3 x4 x5 P sP sL B0 B1 B2 B3 B4 B5 B6 B7 B8 C0 C1 C2 C3 C4 C5 C6 C7 31 (vs 31) w := by first | exact hd.1 rfl | exact hd.2.1 rfl | exact hd.2.2.1 rfl | exact hd.2.2.2.1 rfl | exact hd.2.2.2.2.1 rfl
        change B4 = false → vs 31 = .int .i64 x3 at f
        have fg : UpR a cap g k2 sx x1 x2 x3 x4 x5 P sP sL B0 B1 B2 B3 B4 B5 B6 B7 B8 C0 C1 C2 C3 C4 C5 C6 C7 29 (vs 29) w := by first | exact hd.1 rfl | exact hd.2.1 rfl | exact hd.2.2.1 rfl | exact hd.2.2.2.1 rfl | exact hd.2.2.2.2.1 rfl
        change vs 29 = .bool B4 at fg
        cases B4
        · have f' := f rfl
          have hc := HC4.out
          clear f
          unfold UpA
          go_wp2_with fail
          exact ⟨rfl, .bool C4, (by simp [upd, fg, f', hc]), (fun _ => rfl), Stay.refl _, hS⟩
        · unfold UpA
          go_wp2_with fail
          exact ⟨rfl, undef, (by simp [upd, fg]), (fun h => by cases h), Stay.refl _, hS⟩
      · -- 33
        intro vs w hS hd
        have fg : UpR a cap g k2 sx x1 x2 x3 x4 x5 P sP sL B0 B1 B2 B3 B4 B5 B6 B7 B8 C0 C1 C2 C3 C4 C5 C6 C7 29 (vs 29) w := by first | exact hd.1 rfl | exact hd.2.1 rfl | exact hd.2.2.1 rfl | exact hd.2.2.2.1 rfl | exact hd.2.2.2.2.1 rfl
        change vs 29 = .bool B4 at fg
        have f : UpR a cap g k2 sx x1 x2 x3 x4 x5 P sP sL B0 B1 B2 B3 B4 B5 B6 B7 B8 C0 C1 C2 C3 C4 C5 C6 C7 32 (vs 32) w := by first | exact hd.1 rfl | exact hd.2.1 rfl | exact hd.2.2.1 rfl | exact hd.2.2.2.1 rfl | exact hd.2.2.2.2.1 rfl
        change B4 = false → vs 32 = .bool C4 at f
        have hb := HB5.out
        cases B4
        · have f' := f rfl
          obtain rfl : B5 = C4 := by rw [hb]; rfl
          clear f hb
          unfold UpA
          go_wp2_with fail
          exact ⟨rfl, _, (by simp [upd, fg, f']), rfl, Stay.refl _, hS⟩
        · obtain rfl : B5 = true := by rw [hb]; rfl
          clear f hb
          unfold UpA
          go_wp2_with fail
          exact ⟨rfl, _, (by simp [upd, fg]), rfl, Stay.refl _, hS⟩
      · -- 34
        intro vs w hS hd
        have f : UpR a cap g k2 sx x1 x2 x3 x4 x5 P sP sL B0 B1 B2 B3 B4 B5 B6 B7 B8 C0 C1 C2 C3 C4 C5 C6 C7 33 (vs 33) w := by first | exact hd.1 rfl | exact hd.2.1 rfl | exact hd.2.2.1 rfl | exact hd.2.2.2.1 rfl | exact hd.2.2.2.2.1 rfl
        change vs 33 = .bool B5 at f
        unfold UpA
        go_wp2_with fail
        exact ⟨rfl, _, (by simp [upd, f]), rfl, Stay.refl _, hS⟩
      · -- 35
        intro vs w hS hd
        have fg : UpR a cap g k2 sx x1 x2 x3 x4 x5 P sP sL B0 B1 B2 B3 B4 B5 B6 B7 B8 C0 C1 C2 C3 C4 C5 C6 C7 34 (vs 34) w := by first | exact hd.1 rfl | exact hd.2.1 rfl | exact hd.2.2.1 rfl | exact hd.2.2.2.1 rfl | exact hd.2.2.2.2.1 rfl
        change vs 34 = .bool B5 at fg
        cases B5
        · unfold UpA
          go_wp2_with fail
          exact ⟨rfl, _, (by simp [upd, fg]), (fun _ => rfl), Stay.refl _, hS⟩
        · unfold UpA
          go_wp2_with fail
          exact ⟨rfl, undef, (by simp [upd, fg]), (fun h => by cases h), Stay.refl _, hS⟩
      · -- 36
        intro vs w hS hd
        have f : UpR a cap g k2 sx x1 x2 x3 x4 x5 P sP sL B0 B1 B2 B3 B4 B5 B6 B7 B8 C0 C1 C2 C3 C4 C5 C6 C7 35 (vs 35) w := by first | exact hd.1 rfl | exact hd.2.1 rfl | exact hd.2.2.1 rfl | exact hd.2.2.2.1 rfl | exact hd.2.2.2.2.1 rfl
        change B5 = false → vs 35 = .pointer (some ⟨sx, 3, none⟩) at f
        have fg : UpR a cap g k2 sx x1 x2 x3 x4 x5 P sP sL B0 B1 B2 B3 B4 B5 B6 B7 B8 C0 C1 C2 C3 C4 C5 C6 C7 34 (vs 34) w := by first | exact hd.1 rfl | exact hd.2.1 rfl | exact hd.2.2.1 rfl | exact hd.2.2.2.1 rfl | exact hd.2.2.2.2.1 rfl
        change vs 34 = .bool B5 at fg
        cases B5
        · have f' := f rfl
          obtain ⟨k0, k1, k2', k3⟩ := HCS.out w hS
          clear f
          unfold UpA
          go_wp2_with fail
          exact ⟨rfl, _, (by simp [upd, fg, f']), (fun _ => rfl), Stay.refl _, hS⟩
        · unfold UpA
          go_wp2_with fail
          exact ⟨rfl, undef, (by simp [upd, fg]), (fun h => by cases h), Stay.refl _, hS⟩
      · -- 37
        intro vs w hS hd
        have f : UpR a cap g k2 sx x1 x2 x3 x4 x5 P sP sL B0 B1 B2 B3 B4 B5 B6 B7 B8 C0 C1 C2 C3 C4 C5 C6 C7 36 (vs 36) w := by first | exact hd.1 rfl | exact hd.2.1 rfl | exact hd.2.2.1 rfl | exact hd.2.2.2.1 rfl | exact hd.2.2.2.2.1 rfl
        change B5 = false → vs 36 = .int .i64 x4 at f
        have fg : UpR a cap g k2 sx x1 x2 x3 x4 x5 P sP sL B0 B1 B2 B3 B4 B5 B6 B7 B8 C0 C1 C2 C3 C4 C5 C6 C7 34 (vs 34) w := by first | exact hd.1 rfl | exact hd.2.1 rfl | exact hd.2.2.1 rfl | exact hd.2.2.2.1 rfl | exact hd.2.2.2.2.1 rfl
        change vs 34 = .bool B5 at fg
        cases B5
        · have f' := f rfl
          have hc := HC5.out
          clear f
          unfold UpA
          go_wp2_with fail
          exact ⟨rfl, .bool C5, (by simp [upd, fg, f', hc]), (fun _ => rfl), Stay.refl _, hS⟩
        · unfold UpA
          go_wp2_with fail
          exact ⟨rfl, undef, (by simp [upd, fg]), (fun h => by cases h), Stay.refl _, hS⟩
      · -- 38
        intro vs w hS hd
        have fg : UpR a cap g k2 sx x1 x2 x3 x4 x5 P sP sL B0 B1 B2 B3 B4 B5 B6 B7 B8 C0 C1 C2 C3 C4 C5 C6 C7 34 (vs 34) w := by first | exact hd.1 rfl | exact hd.2.1 rfl | exact hd.2.2.1 rfl | exact hd.2.2.2.1 rfl | exact hd.2.2.2.2.1 rfl
        change vs 34 = .bool B5 at fg
        have f : UpR a cap g k2 sx x1 x2 x3 x4 x5 P sP sL B0 B1 B2 B3 B4 B5 B6 B7 B8 C0 C1 C2 C3 C4 C5 C6 C7 37 (vs 37) w := by first | exact hd.1 rfl | exact hd.2.1 rfl | exact hd.2.2.1 rfl | exact hd.2.2.2.1 rfl | exact hd.2.2.2.2.1 rfl
        change B5 = false → vs 37 = .bool C5 at f
        have hb := HB6.out
        cases B5
        · have f' := f rfl
          obtain rfl : B6 = C5 := by rw [hb]; rfl
          clear f hb
          unfold UpA
          go_wp2_with fail
          exact ⟨rfl, _, (by simp [upd, fg, f']), rfl, Stay.refl _, hS⟩
        · obtain rfl : B6 = true := by rw [hb]; rfl
          clear f hb
          unfold UpA
          go_wp2_with fail
          exact ⟨rfl, _, (by simp [upd, fg]), rfl, Stay.refl _, hS⟩
      · -- 39
        intro vs w hS hd
        have f : UpR a cap g k2 sx x1 x2 x3 x4 x5 P sP sL B0 B1 B2 B3 B4 B5 B6 B7 B8 C0 C1 C2 C3 C4 C5 C6 C7 38 (vs 38) w := by first | exact hd.1 rfl | exact hd.2.1 rfl | exact hd.2.2.1 rfl | exact hd.2.2.2.1 rfl | exact hd.2.2.2.2.1 rfl
        change vs 38 = .bool B6 at f
        unfold UpA
        go_wp2_with fail
        exact ⟨rfl, _, (by simp [upd, f]), rfl, Stay.refl _, hS⟩
      · -- 40
        intro vs w hS hd
        have fg : UpR a cap g k2 sx x1 x2 x3 x4 x5 P sP sL B0 B1 B2 B3 B4 B5 B6 B7 B8 C0 C1 C2 C3 C4 C5 C6 C7 39 (vs 39) w := by first | exact hd.1 rfl | exact hd.2.1 rfl | exact hd.2.2.1 rfl | exact hd.2.2.2.1 rfl | exact hd.2.2.2.2.1 rfl
        change vs 39 = .bool B6 at fg
        cases B6
        · unfold UpA
          go_wp2_with fail
          exact ⟨rfl, _, (by simp [upd, fg]), (fun _ => rfl), Stay.refl _, hS⟩
        · unfold UpA
          go_wp2_with fail
          exact ⟨rfl, undef, (by simp [upd, fg]), (fun h => by cases h), Stay.refl _, hS⟩
      · -- 41
        intro vs w hS hd
        have f : UpR a cap g k2 sx x1 x2 x3 x4 x5 P sP sL B0 B1 B2 B3 B4 B5 B6 B7 B8 C0 C1 C2 C3 C4 C5 C6 C7 40 (vs 40) w := by first | exact hd.1 rfl | exact hd.2.1 rfl | exact hd.2.2.1 rfl | exact hd.2.2.2.1 rfl | exact hd.2.2.2.2.1 rfl
        change B6 = false → vs 40 = .slice (some ⟨g, 0, none⟩) 5 k2 at f
        have fg : UpR a cap g k2 sx x1 x2 x3 x4 x5 P sP sL B0 B1 B2 B3 B4 B5 B6 B7 B8 C0 C1 C2 C3 C4 C5 C6 C7 39 (vs 39) w := by first | exact hd.1 rfl | exact hd.2.1 rfl | exact hd.2.2.1 rfl | exact hd.2.2.2.1 rfl | exact hd.2.2.2.2.1 rfl
        change vs 39 = .bool B6 at fg
        cases B6
        · have f' := f rfl
          clear f
          unfold UpA
          go_wp2_with fail
          exact ⟨rfl, _, (by simp [upd, fg, f']), (fun _ => rfl), Stay.refl _, hS⟩
        · unfold UpA
          go_wp2_with fail
          exact ⟨rfl, undef, (by simp [upd, fg]), (fun h => by cases h), Stay.refl _, hS⟩
      · -- 42
        intro vs w hS hd
        have f : UpR a cap g k2 sx x1 x2 x3 x4 x5 P sP sL B0 B1 B2 B3 B4 B5 B6 B7 B8 C0 C1 C2 C3 C4 C5 C6 C7 41 (vs 41) w := by first | exact hd.1 rfl | exact hd.2.1 rfl | exact hd.2.2.1 rfl | exact hd.2.2.2.1 rfl | exact hd.2.2.2.2.1 rfl
        change B6 = false → vs 41 = .pointer (some ⟨g, 4, none⟩) at f
        have fg : UpR a cap g k2 sx x1 x2 x3 x4 x5 P sP sL B0 B1 B2 B3 B4 B5 B6 B7 B8 C0 C1 C2 C3 C4 C5 C6 C7 39 (vs 39) w := by first | exact hd.1 rfl | exact hd.2.1 rfl | exact hd.2.2.1 rfl | exact hd.2.2.2.1 rfl | exact hd.2.2.2.2.1 rfl
        change vs 39 = .bool B6 at fg
        cases B6
        · have f' := f rfl
          have k4 := HG5.out w hS
          clear f
          unfold UpA
          go_wp2_with fail
          exact ⟨rfl, _, (by simp [upd, fg, f']), (fun _ => rfl), Stay.refl _, hS⟩
        · unfold UpA
          go_wp2_with fail
          exact ⟨rfl, undef, (by simp [upd, fg]), (fun h => by cases h), Stay.refl _, hS⟩
      · -- 43
        intro vs w hS hd
        have f : UpR a cap g k2 sx x1 x2 x3 x4 x5 P sP sL B0 B1 B2 B3 B4 B5 B6 B7 B8 C0 C1 C2 C3 C4 C5 C6 C7 42 (vs 42) w := by first | exact hd.1 rfl | exact hd.2.1 rfl | exact hd.2.2.1 rfl | exact hd.2.2.2.1 rfl | exact hd.2.2.2.2.1 rfl
        change B6 = false → vs 42 = .int .i64 x5 at f
        have fg : UpR a cap g k2 sx x1 x2 x3 x4 x5 P sP sL B0 B1 B2 B3 B4 B5 B6 B7 B8 C0 C1 C2 C3 C4 C5 C6 C7 39 (vs 39) w := by first | exact hd.1 rfl | exact hd.2.1 rfl | exact hd.2.2.1 rfl | exact hd.2.2.2.1 rfl | exact hd.2.2.2.2.1 rfl
        change vs 39 = .bool B6 at fg
        cases B6
        · have f' := f rfl
          have hc := HC6.out
          clear f
          unfold UpA
          go_wp2_with fail
          exact ⟨rfl, .bool C6, (by simp [upd, fg, f', hc]), (fun _ => rfl), Stay.refl _, hS⟩
        · unfold UpA
          go_wp2_with fail
          exact ⟨rfl, undef, (by simp [upd, fg]), (fun h => by cases h), Stay.refl _, hS⟩
      · -- 44
        intro vs w hS hd
        have fg : UpR a cap g k2 sx x1 x2 x3 x4 x5 P sP sL B0 B1 B2 B3 B4 B5 B6 B7 B8 C0 C1 C2 C3 C4 C5 C6 C7 39 (vs 39) w := by first | exact hd.1 rfl | exact hd.2.1 rfl | exact hd.2.2.1 rfl | exact hd.2.2.2.1 rfl | exact hd.2.2.2.2.1 rfl
        change vs 39 = .bool B6 at fg
        have f : UpR a cap g k2 sx x1 x2 x3 x4 x5 P sP sL B0 B1 B2 B3 B4 B5 B6 B7 B8 C0 C1 C2 C3 C4 C5 C6 C7 43 (vs 43) w := by first | exact hd.1 rfl | exact hd.2.1 rfl | exact hd.2.2.1 rfl | exact hd.2.2.2.1 rfl | exact hd.2.2.2.2.1 rfl
        change B6 = false → vs 43 = .bool C6 at f
        have hb := HB7.out
        cases B6
        · have f' := f rfl
          obtain rfl : B7 = C6 := by rw [hb]; rfl
          clear f hb
          unfold UpA
          go_wp2_with fail
          exact ⟨rfl, _, (by simp [upd, fg, f']), rfl, Stay.refl _, hS⟩
        · obtain rfl : B7 = true := by rw [hb]; rfl
          clear f hb
          unfold UpA
          go_wp2_with fail
          exact ⟨rfl, _, (by simp [upd, fg]), rfl, Stay.refl _, hS⟩
      · -- 45
        intro vs w hS hd
        have f : UpR a cap g k2 sx x1 x2 x3 x4 x5 P sP sL B0 B1 B2 B3 B4 B5 B6 B7 B8 C0 C1 C2 C3 C4 C5 C6 C7 44 (vs 44) w := by first | exact hd.1 rfl | exact hd.2.1 rfl | exact hd.2.2.1 rfl | exact hd.2.2.2.1 rfl | exact hd.2.2.2.2.1 rfl
        change vs 44 = .bool B7 at f
        unfold UpA
        go_wp2_with fail
        exact ⟨rfl, _, (by simp [upd, f]), rfl, Stay.refl _, hS⟩
      · -- 46
        intro vs w hS hd
        have fg : UpR a cap g k2 sx x1 x2 x3 x4 x5 P sP sL B0 B1 B2 B3 B4 B5 B6 B7 B8 C0 C1 C2 C3 C4 C5 C6 C7 45 (vs 45) w := by first | exact hd.1 rfl | exact hd.2.1 rfl | exact hd.2.2.1 rfl | exact hd.2.2.2.1 rfl | exact hd.2.2.2.2.1 rfl
        change vs 45 = .bool B7 at fg
        cases B7
        · unfold UpA
          go_wp2_with fail
          exact ⟨rfl, _, (by simp [upd, fg]), (fun _ => rfl), Stay.refl _, hS⟩
        · unfold UpA
          go_wp2_with fail
          exact ⟨rfl, undef, (by simp [upd, fg]), (fun h => by cases h), Stay.refl _, hS⟩
      · -- 47
        intro vs w hS hd
        have f : UpR a cap g k2 sx x1 x2 x3 x4 x5 P sP sL B0 B1 B2 B3 B4 B5 B6 B7 B8 C0 C1 C2 C3 C4 C5 C6 C7 46 (vs 46) w := by first | exact hd.1 rfl | exact hd.2.1 rfl | exact hd.2.2.1 rfl | exact hd.2.2.2.1 rfl | exact hd.2.2.2.2.1 rfl
        change B7 = false → vs 46 = .slice (some ⟨g, 0, none⟩) 5 k2 at f
        have fg : UpR a cap g k2 sx x1 x2 x3 x4 x5 P sP sL B0 B1 B2 B3 B4 B5 B6 B7 B8 C0 C1 C2 C3 C4 C5 C6 C7 45 (vs 45) w := by first | exact hd.1 rfl | exact hd.2.1 rfl | exact hd.2.2.1 rfl | exact hd.2.2.2.1 rfl | exact hd.2.2.2.2.1 rfl
        change vs 45 = .bool B7 at fg
        cases B7
        · have f' := f rfl
          clear f
          unfold UpA
          go_wp2_with fail
          exact ⟨rfl, _, (by simp [upd, fg, f']), (fun _ => rfl), Stay.refl _, hS⟩
        · unfold UpA
          go_wp2_with fail
          exact ⟨rfl, undef, (by simp [upd, fg]), (fun h => by cases h), Stay.refl _, hS⟩
      · -- 48
        intro vs w hS hd
        have f : UpR a cap g k2 sx x1 x2 x3 x4 x5 P sP sL B0 B1 B2 B3 B4 B5 B6 B7 B8 C0 C1 C2 C3 C4 C5 C6 C7 47 (vs 47) w := by first | exact hd.1 rfl | exact hd.2.1 rfl | exact hd.2.2.1 rfl | exact hd.2.2.2.1 rfl | exact hd.2.2.2.2.1 rfl
        change B7 = false → vs 47 = .pointer (some ⟨g, 4, none⟩) at f
        have fg : UpR a cap g k2 sx x1 x2 x3 x4 x5 P sP sL B0 B1 B2 B3 B4 B5 B6 B7 B8 C0 C1 C2 C3 C4 C5 C6 C7 45 (vs 45) w := by first | exact hd.1 rfl | exact hd.2.1 rfl | exact hd.2.2.1 rfl | exact hd.2.2.2.1 rfl | exact hd.2.2.2.2.1 rfl
        change vs 45 = .bool B7 at fg
        cases B7
        · have f' := f rfl
          have k4 := HG5.out w hS
          clear f
          unfold UpA
          go_wp2_with fail
          exact ⟨rfl, _, (by simp [upd, fg, f']), (fun _ => rfl), Stay.refl _, hS⟩
        · unfold UpA
          go_wp2_with fail
          exact ⟨rfl, undef, (by simp [upd, fg]), (fun h => by cases h), Stay.refl _, hS⟩
      · -- 49
        intro vs w hS hd
        have f : UpR a cap g k2 sx x1 x2 x3 x4 x5 P sP sL B0 B1 B2 B3 B4 B5 B6 B7 B8 C0 C1 C2 C3 C4 C5 C6 C7 48 (vs 48) w := by first | exact hd.1 rfl | exact hd.2.1 rfl | exact hd.2.2.1 rfl | exact hd.2.2.2.1 rfl | exact hd.2.2.2.2.1 rfl
        change B7 = false → vs 48 = .int .i64 x5 at f
        have fg : UpR a cap g k2 sx x1 x2 x3 x4 x5 P sP sL B0 B1 B2 B3 B4 B5 B6 B7 B8 C0 C1 C2 C3 C4 C5 C6 C7 45 (vs 45) w := by first | exact hd.1 rfl | exact hd.2.1 rfl | exact hd.2.2.1 rfl | exact hd.2.2.2.1 rfl | exact hd.2.2.2.2.1 rfl
        change vs 45 = .bool B7 at fg
        cases B7
        · have f' := f rfl
          have hc := HC7.out
          clear f
          unfold UpA
          go_wp2_with fail
          exact ⟨rfl, .bool C7, (by simp [upd, fg, f', hc]), (fun _ => rfl), Stay.refl _, hS⟩
        · unfold UpA
          go_wp2_with fail
          exact ⟨rfl, undef, (by simp [upd, fg]), (fun h => by cases h), Stay.refl _, hS⟩
      · -- 50
        intro vs w hS hd
        have fg : UpR a cap g k2 sx x1 x2 x3 x4 x5 P sP sL B0 B1 B2 B3 B4 B5 B6 B7 B8 C0 C1 C2 C3 C4 C5 C6 C7 45 (vs 45) w := by first | exact hd.1 rfl | exact hd.2.1 rfl | exact hd.2.2.1 rfl | exact hd.2.2.2.1 rfl | exact hd.2.2.2.2.1 rfl
        change vs 45 = .bool B7 at fg
        have f : UpR a cap g k2 sx x1 x2 x3 x4 x5 P sP sL B0 B1 B2 B3 B4 B5 B6 B7 B8 C0 C1 C2 C3 C4 C5 C6 C7 49 (vs 49) w := by first | exact hd.1 rfl | exact hd.2.1 rfl | exact hd.2.2.1 rfl | exact hd.2.2.2.1 rfl | exact hd.2.2.2.2.1 rfl
        change B7 = false → vs 49 = .bool C7 at f
        have hb := HB8.out
        cases B7
        · have f' := f rfl
          obtain rfl : B8 = C7 := by rw [hb]; rfl
          clear f hb
          unfold UpA
          go_wp2_with fail
          exact ⟨rfl, _, (by simp [upd, fg, f']), rfl, Stay.refl _, hS⟩
        · obtain rfl : B8 = true := by rw [hb]; rfl
          clear f hb
          unfold UpA
          go_wp2_with fail
          exact ⟨rfl, _, (by simp [upd, fg]), rfl, Stay.refl _, hS⟩
    · intro vs w4 hS hR
      have f50 : vs 50 = .bool B8 := hR 50 (by decide)
      have hBw : B ≤ w4.heap.size := by have := hS.size; have := HBS.out; omega
      have HBW4 : Hid (Below w.heap.size w w4) := HW3.out.trans (hS.mono (by have := HBS.out; have := HW3.out.size; omega))
      have hg3 := HG3.out
      have hr4 : w4.heap[rx]? = some (.cells #[.int .i64 0, .int .i64 0, .int .i64 0, .int .i64 0] 23 (0, 0)) := (hS.block rx (by have := HBS.out; omega)).trans HR3.out
      have hx4 : w4.heap[sx]? = some (.cells #[.int .i64 x1, .int .i64 x2, .int .i64 x3, .int .i64 x4] 23 (0, 0)) := (hS.block sx (by have := HBS.out; omega)).trans HX3.out
      have hj5 := HG5.out w4 hS
      have hrx : w.heap.size ≤ rx := by rw [← HRX.out]; exact Nat.le_refl _
      have HR4 := hid_of hr4
      have HX4 := hid_of hx4
      have HJ5 := hid_of hj5
      have HRS := hid_of hrx
      have HNE := hid_of hg3.2.2.2.2
      clear hR hS hBw hg3 hr4 hx4 hj5 hrx HW3 HR3 HG3 HX3 HG5 HCS HBS HB0' HPK HSP HSL HQ HC0 HC1 HC2 HC3 HC4 HC5 HC6 HC7 HB1 HB2 HB3 HB4 HB5 HB6 HB7 HB8
      obtain ⟨m0, m1, m2, m3⟩ : w4.cell? ⟨rx, 0, none⟩ = some (.int .i64 0) ∧ w4.cell? ⟨rx, 1, none⟩ = some (.int .i64 0) ∧ w4.cell? ⟨rx, 2, none⟩ = some (.int .i64 0) ∧ w4.cell? ⟨rx, 3, none⟩ = some (.int .i64 0) := by
        have e := HR4.out
        refine ⟨?_, ?_, ?_, ?_⟩ <;> (unfold World.cell?; rw [e]; rfl)
      have mf : ∀ j, w4.frozen? ⟨rx, j, none⟩ = false := fun j => by have e := HR4.out; simp [World.frozen?, e]
      have p1 : ∀ v, (w4.setCell ⟨rx, 0, none⟩ v).cell? ⟨rx, 1, none⟩ = some (.int .i64 0) := fun v => by rw [World.cell?_setCell_other _ _ _ _ (by simp)]; exact m1
      have p2 : ∀ v v2, ((w4.setCell ⟨rx, 0, none⟩ v).setCell ⟨rx, 1, none⟩ v2).cell? ⟨rx, 2, none⟩ = some (.int .i64 0) := fun v v2 => by rw [World.cell?_setCell_other _ _ _ _ (by simp), World.cell?_setCell_other _ _ _ _ (by simp)]; exact m2
      have p3 : ∀ v v2 v3, (((w4.setCell ⟨rx, 0, none⟩ v).setCell ⟨rx, 1, none⟩ v2).setCell ⟨rx, 2, none⟩ v3).cell? ⟨rx, 3, none⟩ = some (.int .i64 0) := fun v v2 v3 => by rw [World.cell?_setCell_other _ _ _ _ (by simp), World.cell?_setCell_other _ _ _ _ (by simp), World.cell?_setCell_other _ _ _ _ (by simp)]; exact m3
      have HST : Hid (∀ c0 c1 c2 c3 : Value, (((((w4.setCell ⟨rx, 0, none⟩ c0).setCell ⟨rx, 1, none⟩ c1).setCell ⟨rx, 2, none⟩ c2).setCell ⟨rx, 3, none⟩ c3).heap[rx]? = some (.cells #[c0, c1, c2, c3] 23 (0, 0))) ∧ Below w.heap.size w ((((w4.setCell ⟨rx, 0, none⟩ c0).setCell ⟨rx, 1, none⟩ c1).setCell ⟨rx, 2, none⟩ c2).setCell ⟨rx, 3, none⟩ c3)) := fun c0 c1 c2 c3 => by
        have q1 := heap_setCell_of (o := 0) HR4.out c0
        have q2 := heap_setCell_of (o := 1) q1 c1
        have q3 := heap_setCell_of (o := 2) q2 c2
        have q4 := heap_setCell_of (o := 3) q3 c3
        have hk : Kept (fun k => k = rx) w4 ((((w4.setCell ⟨rx, 0, none⟩ c0).setCell ⟨rx, 1, none⟩ c1).setCell ⟨rx, 2, none⟩ c2).setCell ⟨rx, 3, none⟩ c3) := (((Kept.setCell (F := fun k => k = rx) _ ⟨rx, 0, none⟩ c0 rfl).trans (Kept.setCell _ ⟨rx, 1, none⟩ c1 rfl)).trans (Kept.setCell _ ⟨rx, 2, none⟩ c2 rfl)).trans (Kept.setCell _ ⟨rx, 3, none⟩ c3 rfl)
        exact ⟨q4, hk.below_of HBW4.out (fun k e => by subst e; exact HRS.out) HBW4.out.size⟩
      obtain ⟨k0, k1, k2', k3⟩ : w4.cell? ⟨sx, 0, none⟩ = some (.int .i64 x1) ∧ w4.cell? ⟨sx, 1, none⟩ = some (.int .i64 x2) ∧ w4.cell? ⟨sx, 2, none⟩ = some (.int .i64 x3) ∧ w4.cell? ⟨sx, 3, none⟩ = some (.int .i64 x4) := by
        have e := HX4.out
        refine ⟨?_, ?_, ?_, ?_⟩ <;> (unfold World.cell?; rw [e]; rfl)
      have j5 : w4.cell? ⟨g, 4, none⟩ = some (.int .i64 x5) := HJ5.out
      have hE := HEND.out
      unfold UpA
      simp only [f50]
      clear f50
      cases hb8 : B8
      · have hU : unpSu l = (⟨x1, x2, x3, x4⟩, x5, true) := by
          have hs : isSu l := by
            rw [hb8] at hE
            exact of_decide_eq_true (by cases h : decide (isSu l) <;> simp [h] at hE ⊢)
          unfold unpSu
          rw [if_pos hs, ← HXX.out, ← HXF.out]
        rw [HU.out] at hU
        injection hU with hU1 hU2
        injection hU2 with hU2 hU3
        subst hU1 hU2 hU3 hb8
        clear hE HEND HXX HXF HR4 HX4 HJ5 HU
        go_wp2_with fail
        go_region
        all_goals go_wp2_with fail
        all_goals
          try simp only [Exit.inBlock, Exit.then]
          refine bodyPost_ret (results_cell3 (p := 2) (ty := 23) rfl _ _ rx 23 #[.int .i64 x1, .int .i64 x2, .int .i64 x3, .int .i64 x4] (0, 0) _ rfl (HST.out _ _ _ _).1 Try.underlying23 rfl Try.infoSu) rfl ?_
          exact ⟨rfl, (HST.out _ _ _ _).2.drew⟩
      · have hU : unpSu l = (⟨0, 0, 0, 0⟩, 0, false) := by
          have hs : ¬ isSu l := by
            rw [hb8] at hE
            exact of_decide_eq_false (by cases h : decide (isSu l) <;> simp [h] at hE ⊢)
          unfold unpSu
          rw [if_neg hs]
        rw [HU.out] at hU
        injection hU with hU1 hU2
        injection hU2 with hU2 hU3
        subst hU1 hU2 hU3 hb8
        clear hE HEND HXX HXF HR4 HX4 HJ5 HU
        go_wp2_with fail
        try simp only [Exit.inBlock, Exit.then]
        refine bodyPost_ret (results_cell3 (p := 2) (ty := 23) rfl _ _ rx 23 #[.int .i64 0, .int .i64 0, .int .i64 0, .int .i64 0] (0, 0) _ rfl (HST.out _ _ _ _).1 Try.underlying23 rfl Try.infoSu) rfl ?_
        exact ⟨rfl, (HST.out _ _ _ _).2⟩
  · have hU : unpSu l = (⟨0, 0, 0, 0⟩, 0, false) := by
      unfold unpSu
      rw [if_neg (fun h => h128 (by rw [← hl]; exact h.1))]
    rw [HU.out] at hU
    injection hU with hU1 hU2
    injection hU2 with hU2 hU3
    subst hU1 hU2 hU3
    have hb : ((n : Int) == 128) = false := beq_eq_false_iff_ne.2 (by omega)
    clear hB hl h256 HU
    go_enter Try.func20, Try.ntmps20
    go_wp2_with fail
    try simp only [Exit.inBlock, Exit.then]
    refine bodyPost_ret (results_cell3 (p := 2) (ty := 23) rfl _ _ w.heap.size 23 #[.int .i64 0, .int .i64 0, .int .i64 0, .int .i64 0] (0, 0) _ rfl (heap_alloc_new w _) Try.underlying23 rfl Try.infoSu) rfl ?_
    exact ⟨rfl, (Below.refl _ _).alloc (Nat.le_refl _) _⟩

end Go.Proofs.Ytdcnbakmmkbodaa
