/- The texts Crc5, BlkS, BlkD, DecMost, BlkO, BlkP, CopyB, BlkL, one behind the other. -/
import Derived.Test.YtejgkgnocgplbabGreatPart11
import Derived.Test.YtejgkgnocgplbabGreatPart08
import Derived.Laws.AppendOwnNone
import Derived.Laws.IdiomStrings
import Derived.Laws.BytesArg
import Derived.Test.YtejgkgnocgplbabGreatPart09
import Derived.Lib.SliceRun
import Derived.Laws.CopyOwn

/- The document's example of sums; copies of bytes; Same at any bytes. -/
namespace Go.Proofs.YtejgkgnocgplbabGreat
set_option linter.unusedVariables false
set_option maxRecDepth 100000
set_option linter.unusedSimpArgs false
open Go.RowKit Dg Cr

theorem wf_u32 {x : Int} (h : (Lit.int .u32 x).wf = true) : 0 ≤ x ∧ x < 4294967296 := by
  simp [Lit.wf, IntKind.min, IntKind.max, IntKind.signed, IntKind.bits] at h
  omega
theorem tsum_at (w : World) (b : Nat) (m : Bool) (sv : Value) (l : List Nat) (x : Nat) (hx : x = (crc ones l).toNat) (ht : TbAt w b m) (h : SlAt w sv l) (hf : l ≠ [] → ∀ k, sv.ownBlock = some k → k ≠ b) (hl : l.length ≤ 1000000) (h256 : ∀ x ∈ l, x < 256) :
    Calls Tryz.prog 33 #[.pointer (some ⟨b, 0, none⟩), sv] w fun e w' => e = .returned (.int .u32 (x : Int)) ∧ TbAt w' b (m || !l.isEmpty) ∧ Kept (fun k => k = b) w w' := by
  rw [hx]; exact tsum_any w b m sv l ht h hf hl h256
theorem tadd_at (w : World) (b : Nat) (m : Bool) (s : Nat) (sv : Value) (l : List Nat) (x : Nat) (hs : s < 4294967296) (hx : x = (crc (BitVec.ofNat 32 s) l).toNat) (ht : TbAt w b m) (h : SlAt w sv l) (hf : l ≠ [] → ∀ k, sv.ownBlock = some k → k ≠ b) (hl : l.length ≤ 1000000) (h256 : ∀ x ∈ l, x < 256) :
    Calls Tryz.prog 49 #[.pointer (some ⟨b, 0, none⟩), .int .u32 (s : Int), sv] w fun e w' => e = .returned (.int .u32 (x : Int)) ∧ TbAt w' b (m || !l.isEmpty) ∧ Kept (fun k => k = b) w w' := by
  have e : (BitVec.ofNat 32 s).toNat = s := by rw [BitVec.toNat_ofNat]; omega
  have h1 := tadd_any w b m (BitVec.ofNat 32 s) sv l ht h hf hl h256
  unfold u32v at h1
  rw [e] at h1
  rw [hx]; exact h1

/-- "123456789" -/
def nine : List Nat := [49, 50, 51, 52, 53, 54, 55, 56, 57]
theorem crc_nine : (crc ones nine).toNat = 58124007 := by decide +kernel
/-- Bytes of a text, as bytes: the row is marked behind its end. -/
theorem run_marked (w : World) (C : Array Value) (n c : Nat) :
    Sem.run Tryz.prog (convert 28 28 (.slice (some ⟨w.heap.size, 0, none⟩) n c)) (w.alloc (.cells C 5)) = .ok (.slice (some ⟨w.heap.size, 0, none⟩) n c) (w.alloc (.cells C 5 (C.size, C.size + 1))) := by
  have hsh : (w.alloc (.cells C 5)).shape? w.heap.size = some (5, C.size) := by
    unfold World.shape?
    rw [heap_alloc_new]
  have hfr : (w.alloc (.cells C 5)).freeze ⟨w.heap.size, C.size, none⟩ 1 = w.alloc (.cells C 5 (C.size, C.size + 1)) := by
    have hm : ∀ (a : Array Obj) (x : Obj) (f : Obj → Obj), (a.push x).modify a.size f = a.push (f x) := by
      intro a x f
      apply Array.ext
      · simp
      · intro i h1 h2
        simp only [Array.getElem_modify, Array.getElem_push]
        by_cases h : a.size = i
        · subst h
          simp
        · have hi : i < a.size := by simp at h1; omega
          simp [h, hi]
    unfold World.freeze
    rw [if_neg (by decide)]
    show ({ w.alloc (.cells C 5) with heap := (w.heap.push (.cells C 5)).modify w.heap.size _ } : World) = _
    rw [hm]
    rfl
  simp [convert, run_underlying Tryz.underlying28, run_underlying Tryz.underlying5, markStringish, hsh]
  exact hfr
theorem nine_at (w : World) : SlAt (w.alloc (.cells #[.int .u8 49, .int .u8 50, .int .u8 51, .int .u8 52, .int .u8 53, .int .u8 54, .int .u8 55, .int .u8 56, .int .u8 57] 5 (9, 10))) (.slice (some ⟨w.heap.size, 0, none⟩) 9 9) nine := by
  refine ⟨some ⟨w.heap.size, 0, none⟩, 9, rfl, fun j x hx => ⟨w.heap.size, 0, rfl, ?_⟩⟩
  have hj : j < 9 := (List.getElem?_eq_some_iff.1 hx).1
  have hr : j = 0 ∨ j = 1 ∨ j = 2 ∨ j = 3 ∨ j = 4 ∨ j = 5 ∨ j = 6 ∨ j = 7 ∨ j = 8 := by omega
  rcases hr with h | h | h | h | h | h | h | h | h <;> subst h <;> simp [nine] at hx <;> subst hx <;> (simp only [World.cell?, heap_alloc_new]; rfl)

end Go.Proofs.YtejgkgnocgplbabGreat

/- The coder of package block in memory: its table and two counts; sum, bytes.Equal, holds. -/
namespace Go.Proofs.YtejgkgnocgplbabGreat
set_option linter.unusedVariables false
set_option linter.unusedSimpArgs false
open Go.RowKit Dg Cr

/-- '(*sync/atomic.Int64).Add', '.Load' of a count. -/
theorem aadd_any (a : Addr) (x y : Int) (w : World) (hc : w.cell? a = some (.int .i64 x)) (hz : w.frozen? a = false) (h1 : -1000000 ≤ x) (h2 : x ≤ 1000000) (h3 : -1000000 ≤ y) (h4 : y ≤ 1000000) :
    Calls Tryz.prog 19 #[.pointer (some a), .int .i64 y] w fun e w' => e = .returned (.int .i64 (x + y)) ∧ w' = w.setCell a (.int .i64 (x + y)) := by
  have hs : (Op.intArith .add .i64 x y).run Tryz.prog w = .ok (.int .i64 (x + y)) w := by
    have e : IntKind.i64.wrap (x + y) = x + y := Go.IntWalk.i64_in _ (by omega)
    simp [Op.intArith, e]
  have hl := run_call_add (P := Tryz.prog) Tryz.func27 (by kernel_rfl) (by kernel_rfl) (by kernel_rfl) .i64 (by kernel_rfl) hc hz hs
  go_enter Tryz.func19, Tryz.ntmps19
  go_wp2
  go_ret
  exact ⟨rfl, rfl⟩
/-- A coder: its table, its counts. -/
structure CoIs (w : World) (b t n m : Nat) (made : Bool) : Prop where
  box : w.heap[b]? = some (.cells #[.pointer (some ⟨t, 0, none⟩), .int .i64 (n : Int), .int .i64 (m : Int)] 47 (0, 0))
  tab : TbAt w t made
  ne : t ≠ b
def CoS (w : World) (b base top n m : Nat) : Prop := ∃ t made, CoIs w b t n m made ∧ base ≤ t ∧ t < top ∧ base ≤ b ∧ b < top ∧ top ≤ w.heap.size
theorem CoIs.cell {w : World} {b t n m : Nat} {made : Bool} (h : CoIs w b t n m made) : w.cell? ⟨b, 0, none⟩ = some (.pointer (some ⟨t, 0, none⟩)) ∧ w.cell? ⟨b, 1, none⟩ = some (.int .i64 (n : Int)) ∧ w.cell? ⟨b, 2, none⟩ = some (.int .i64 (m : Int)) := by
  simp [World.cell?, h.box]
theorem CoIs.froz {w : World} {b t n m : Nat} {made : Bool} (h : CoIs w b t n m made) (o : Nat) : w.frozen? ⟨b, o, none⟩ = false := by
  simp [World.frozen?, h.box]
theorem CoIs.kept {w w' : World} {b t n m : Nat} {made : Bool} {F : Nat → Prop} (h : CoIs w b t n m made) (hk : Kept F w w') (h1 : ¬ F b) (h2 : ¬ F t) : CoIs w' b t n m made :=
  ⟨by rw [hk.block b (Array.getElem?_eq_some_iff.1 h.box).1 h1]; exact h.box, h.tab.kept hk h2, h.ne⟩
theorem CoIs.sealed {w : World} {b t n m : Nat} {made : Bool} (h : CoIs w b t n m made) (n' : Nat) : CoIs (w.setCell ⟨b, 1, none⟩ (.int .i64 (n' : Int))) b t n' m made :=
  ⟨heap_setCell_of h.box _, h.tab.kept (Kept.setCell (F := fun k => k = b) _ _ _ rfl) (fun e => h.ne e), h.ne⟩
theorem CoIs.opened {w : World} {b t n m : Nat} {made : Bool} (h : CoIs w b t n m made) (m' : Nat) : CoIs (w.setCell ⟨b, 2, none⟩ (.int .i64 (m' : Int))) b t n m' made :=
  ⟨heap_setCell_of h.box _, h.tab.kept (Kept.setCell (F := fun k => k = b) _ _ _ rfl) (fun e => h.ne e), h.ne⟩
theorem CoS.lt {w : World} {b base top n m : Nat} (h : CoS w b base top n m) : base ≤ b ∧ b < top ∧ top ≤ w.heap.size := by
  obtain ⟨t, made, -, -, -, h1, h2, h3⟩ := h
  exact ⟨h1, h2, h3⟩
theorem CoS.keep {w w' : World} {b base top n m : Nat} {F : Nat → Prop} (h : CoS w b base top n m) (hk : Kept F w w') (hF : ∀ k, InCo base top k → ¬ F k) : CoS w' b base top n m := by
  obtain ⟨t, made, h0, h1, h2, h3, h4, h5⟩ := h
  exact ⟨t, made, h0.kept hk (hF b ⟨h3, h4⟩) (hF t ⟨h1, h2⟩), h1, h2, h3, h4, Nat.le_trans h5 hk.size⟩
set_option maxHeartbeats 1000000 in
theorem snew_any (w : World) : Calls Tryz.prog 6 #[] w fun e w' => ∃ b top, e = .returned (.pointer (some ⟨b, 0, none⟩)) ∧ CoS w' b w.heap.size top 0 0 ∧ Below w.heap.size w w' := by
  go_enter Tryz.func6, Tryz.ntmps6
  go_wp2_with fail
  refine (tnew_any w).mono ?_
  rintro e w1 ⟨rfl, ht1, hb1, hs1⟩
  have HT1 := hid_of ht1
  have HB1 := hid_of hb1
  clear ht1 hb1
  go_wp2_with fail
  go_ret
  refine ⟨w1.heap.size, w1.heap.size + 1, rfl, ⟨w.heap.size, false, ⟨heap_alloc_new w1 _, HT1.out.kept (Kept.alloc (fun _ => False) _ _) (fun h => h), by omega⟩, Nat.le_refl _, by omega, by omega, by omega, by simp⟩, HB1.out.alloc (by omega) _⟩
theorem CoIs.lt {w : World} {b t n m : Nat} {made : Bool} (h : CoIs w b t n m made) : b < w.heap.size := (Array.getElem?_eq_some_iff.1 h.box).1
/-- A sum by the coder's table. -/
theorem csum_any (w : World) (b t n m base top : Nat) (made : Bool) (h : CoIs w b t n m made) (ht1 : base ≤ t) (ht2 : t < top) (hb1 : base ≤ b) (hb2 : b < top) (htop : top ≤ w.heap.size) (v : Value) (l : List Nat) (X : Nat) (hX : X = sumN l) (hs : SlAt w v l) (hf : l ≠ [] → ∀ k, v.ownBlock = some k → ¬ InCo base top k) (hl : l.length ≤ 1000000) (h256 : ∀ x ∈ l, x < 256) :
    Calls Tryz.prog 33 #[.pointer (some ⟨t, 0, none⟩), v] w fun e w' => e = .returned (.int .u32 (X : Int)) ∧ (∃ made', CoIs w' b t n m made') ∧ Kept (InCo base top) w w' := by
  refine (tsum_at w t made v l X hX h.tab hs (fun hne k hk e => hf hne k hk (by subst e; exact ⟨ht1, ht2⟩)) hl h256).mono ?_
  rintro e w' ⟨rfl, ht, hk⟩
  refine ⟨rfl, ⟨_, ⟨?_, ht, h.ne⟩⟩, hk.mono (fun i _ hi => by subst hi; exact ⟨ht1, ht2⟩)⟩
  rw [hk.block b h.lt (fun e => h.ne e.symm)]
  exact h.box
/-- The four bytes of a sum, as the walk spells them. -/
theorem four_own (w : World) (B X : Nat) (hX : X < 4294967296) (hB : B ≤ w.heap.size) : (w.alloc (.cells #[.int .u8 ((X : Int) / 16777216), .int .u8 ((X : Int) / 65536 % 256), .int .u8 ((X : Int) / 256 % 256), .int .u8 ((X : Int) % 256)] 5)).ownsRow B 5 1 (.slice (some ⟨w.heap.size, 0, none⟩) 4 4) 4 (u8s (bytes4 X)) := by
  refine own_new w B _ 4 (bytes4 X) ?_ rfl (by decide) hB
  have h0 : (X : Int) / 16777216 = ((X / 16777216 % 256 : Nat) : Int) := by omega
  have h1 : (X : Int) / 65536 % 256 = ((X / 65536 % 256 : Nat) : Int) := by omega
  have h2 : (X : Int) / 256 % 256 = ((X / 256 % 256 : Nat) : Int) := by omega
  have h3 : (X : Int) % 256 = ((X % 256 : Nat) : Int) := by omega
  rw [h0, h1, h2, h3]
  rfl
set_option maxRecDepth 100000 in
set_option maxHeartbeats 4000000 in
/-- 'c.sum(b)'. -/
theorem ssum_any (w : World) (b base top n m : Nat) (h : CoS w b base top n m) (v : Value) (l : List Nat) (X : Nat) (hX : X = sumN l) (hs : SlAt w v l) (hf : l ≠ [] → ∀ k, v.ownBlock = some k → ¬ InCo base top k) (hl : l.length ≤ 1000000) (h256 : ∀ x ∈ l, x < 256) :
    Calls Tryz.prog 22 #[.pointer (some ⟨b, 0, none⟩), v] w fun e w' => ∃ g, e = .returned (.slice (some ⟨g, 0, none⟩) 4 4) ∧ w'.ownsRow w.heap.size 5 1 (.slice (some ⟨g, 0, none⟩) 4 4) 4 (u8s (bytes4 X)) ∧ CoS w' b base top n m ∧ Kept (InCo base top) w w' := by
  obtain ⟨t, made, h0, h1, h2, h3, h4, h5⟩ := h
  obtain ⟨c0, c1, c2⟩ := h0.cell
  have hXl : X < 4294967296 := by rw [hX]; exact sumN_lt _
  have HC := hid_of (csum_any w b t n m base top made h0 h1 h2 h3 h4 h5 v l X hX hs hf hl h256)
  have HP : Hid (base ≤ t ∧ t < top ∧ base ≤ b ∧ b < top ∧ top ≤ w.heap.size) := ⟨h1, h2, h3, h4, h5⟩
  clear h0 hX hs hf h256 h1 h2 h3 h4 h5
  go_enter Tryz.func22, Tryz.ntmps22
  go_wp2_with fail
  refine HC.out.mono ?_
  rintro e w1 ⟨rfl, ⟨made1, hc1⟩, hk1⟩
  have HC1 := hid_of hc1
  have HK1 := hid_of hk1
  clear hc1 hk1 HC
  go_wp2_with fail
  go_ret
  have hka := Kept.alloc (fun _ => False) w1 (.cells #[.int .u8 ((X : Int) / 16777216), .int .u8 ((X : Int) / 65536 % 256), .int .u8 ((X : Int) / 256 % 256), .int .u8 ((X : Int) % 256)] 5)
  exact ⟨_, rfl, four_own w1 _ X hXl HK1.out.size, ⟨t, made1, HC1.out.kept hka (fun h => h) (fun h => h), HP.out.1, HP.out.2.1, HP.out.2.2.1, HP.out.2.2.2.1, Nat.le_trans HP.out.2.2.2.2 (Nat.le_trans HK1.out.size hka.size)⟩, HK1.out.trans (hka.mono (fun _ _ h => h.elim))⟩

/-- The string of some bytes. -/
def strB (l : List Nat) : ByteArray := strOfNums (l.map fun n : Nat => (n : Int))
theorem conv_bytes (w : World) (a : Option Addr) (n c : Nat) (l : List Nat) (hn : l.length = n) (h0 : 0 < n) (h : SlAt w (.slice a n c) l) :
    (convert 28 9 (.slice a n c)).run Tryz.prog w = .ok (.string (strB l)) w := by
  subst hn
  obtain ⟨ao, cp, hv, hc⟩ := h
  cases hv
  obtain ⟨b, off, rfl, -⟩ := hc 0 (l[0]'h0) (by rw [List.getElem?_eq_getElem])
  unfold strB
  refine run_convert_bytes_arg (P := Tryz.prog) w 28 5 Tryz.underlying28 Tryz.underlying5 b off _ _ (l.map fun n : Nat => (n : Int)) (List.length_map ..) (fun i hi => ?_) 9 Tryz.underlying9
  obtain ⟨b', off', e, hcell⟩ := hc i (l[i]'hi) (by rw [List.getElem?_eq_getElem])
  cases e
  rw [hcell]
  simp [List.getD, List.getElem?_eq_getElem hi]
theorem strB_eq {l1 l2 : List Nat} (h1 : ∀ x ∈ l1, x < 256) (h2 : ∀ x ∈ l2, x < 256) : (strB l1).data.toList = (strB l2).data.toList ↔ l1 = l2 := by
  refine ⟨fun h => ?_, fun h => by rw [h]⟩
  unfold strB at h
  rw [strOfNums_data, strOfNums_data, List.map_map, List.map_map] at h
  have key : ∀ l : List Nat, (∀ x ∈ l, x < 256) → (l.map ((fun n : Int => UInt8.ofNat n.toNat) ∘ fun n : Nat => (n : Int))).map UInt8.toNat = l := by
    intro l hl
    rw [List.map_map]
    conv => rhs; rw [← List.map_id l]
    refine List.map_congr_left (fun x hx => ?_)
    have := hl x hx
    simp [UInt8.toNat_ofNat]
    omega
  have h3 := congrArg (List.map UInt8.toNat) h
  rwa [key l1 h1, key l2 h2] at h3
set_option maxHeartbeats 1000000 in
/-- 'bytes.Equal' of rows that are not empty. -/
theorem bequal_any (w : World) (a1 a2 : Option Addr) (n1 n2 c1 c2 : Nat) (l1 l2 : List Nat) (e1 : l1.length = n1) (e2 : l2.length = n2) (p1 : 0 < n1) (p2 : 0 < n2) (h1 : SlAt w (.slice a1 n1 c1) l1) (h2 : SlAt w (.slice a2 n2 c2) l2) (b1 : ∀ x ∈ l1, x < 256) (b2 : ∀ x ∈ l2, x < 256) (q : Bool) (hq : q = decide (l1 = l2)) :
    Calls Tryz.prog 23 #[.slice a1 n1 c1, .slice a2 n2 c2] w fun e w' => e = .returned (.bool q) ∧ w = w' := by
  have k1 := conv_bytes w a1 n1 c1 l1 e1 p1 h1
  have k2 := conv_bytes w a2 n2 c2 l2 e2 p2 h2
  have HQ : Hid (((strB l1).toList == (strB l2).toList) = q) := by
    show _ = _
    rw [hq, ByteArray.toList_eq, ByteArray.toList_eq]
    by_cases h : l1 = l2
    · rw [decide_eq_true h]; exact beq_iff_eq.2 ((strB_eq b1 b2).2 h)
    · rw [decide_eq_false h]; exact beq_eq_false_iff_ne.2 (fun e => h ((strB_eq b1 b2).1 e))
  clear h1 h2 b1 b2 hq
  generalize strB l1 = s1 at *
  generalize strB l2 = s2 at *
  go_enter Tryz.func23, Tryz.ntmps23
  go_wp2
  go_ret
  exact ⟨by rw [← HQ.out]; rfl, rfl⟩

set_option maxRecDepth 100000 in
set_option maxHeartbeats 4000000 in
/-- 'c.holds(sector)'. -/
theorem swhole_any (w : World) (b base top n m : Nat) (a : Option Addr) (cap : Nat) (l : List Nat) (h : CoS w b base top n m) (hs : Bs w a cap l) (hf : l ≠ [] → ∀ y, a = some y → ¬ InCo base top y.block) (hl : l.length ≤ 100000) (h256 : ∀ x ∈ l, x < 256) (q : Bool) (hq : q = decide (wholeP l)) :
    Calls Tryz.prog 17 #[.pointer (some ⟨b, 0, none⟩), .slice a l.length cap] w fun e w' => e = .returned (.bool q) ∧ CoS w' b base top n m ∧ Kept (InCo base top) w w' := by
  by_cases h128 : l.length = 128
  · have hb : ((l.length : Int) == 128) = true := beq_iff_eq.2 (by omega)
    have hle := hs.le
    have htop : top ≤ w.heap.size := h.lt.2.2
    obtain ⟨T, hT⟩ : ∃ T, T = l.take 124 := ⟨_, rfl⟩
    obtain ⟨D, hD⟩ : ∃ D, D = l.drop 124 := ⟨_, rfl⟩
    obtain ⟨X, hX⟩ : ∃ X, X = sumN T := ⟨_, rfl⟩
    have hTl : T.length = 124 := by rw [hT, List.length_take]; omega
    have hDl : D.length = 4 := by rw [hD, List.length_drop]; omega
    have HQ : Hid (q = decide (bytes4 X = D)) := by
      show _ = _
      rw [hq]
      by_cases hw : wholeP l
      · rw [decide_eq_true hw, decide_eq_true]
        rw [hX, hT, hD]; exact hw.2.symm
      · rw [decide_eq_false hw, decide_eq_false]
        intro e
        exact hw ⟨h128, by rw [← hT, ← hD, ← hX]; exact e.symm⟩
    have HT256 : Hid (∀ x ∈ T, x < 256) := by rw [hT]; exact fun x hx => h256 x (List.mem_of_mem_take hx)
    have HD256 : Hid (∀ x ∈ D, x < 256) := by rw [hD]; exact fun x hx => h256 x (List.mem_of_mem_drop hx)
    obtain ⟨a', ha'⟩ : ∃ a', a' = lowA a cap 124 := ⟨_, rfl⟩
    obtain ⟨cap', hcap'⟩ : ∃ cap', cap' = cap - 124 := ⟨_, rfl⟩
    have hsl : ∀ W : World, (Instr.sliceAt 28 (.slice a l.length cap) none (some (.int .i64 124)) none).run Tryz.prog W = .ok (.slice a 124 cap) W := fun W => slice_hi a l.length cap 124 (by omega) W
    have hsl2 : ∀ W : World, (Instr.sliceAt 28 (.slice a l.length cap) (some (.int .i64 124)) none none).run Tryz.prog W = .ok (.slice a' 4 cap') W := fun W => by
      have e := slice_lo a l.length cap 124 (by omega) W
      rw [ha', hcap', show 4 = l.length - 124 by omega]
      exact e
    have HSD : Hid (∀ W, Bs W a cap l → SlAt W (.slice a' 4 cap') D) := fun W hW => by
      have h1 := (hW.lo 124 (by omega)).at_
      rw [List.length_drop, show l.length - 124 = 4 by omega] at h1
      rw [ha', hcap', hD]; exact h1
    have HST : Hid (∀ W, Bs W a cap l → SlAt W (.slice a 124 cap) T) := fun W hW => by rw [hT]; exact hW.hi 124 (by omega)
    have HF : Hid (∀ y, a = some y → ¬ InCo base top y.block) := hf (fun e => by rw [e] at h128; simp at h128)
    have H := hid_of h
    have HS := hid_of hs
    have HX := hid_of hX
    have HDL := hid_of hDl
    have HTL := hid_of hTl
    clear h hs hf h256 hX hq hT hD ha' hcap' hDl hTl h128 hle
    have HCS : Hid (Calls Tryz.prog 22 #[.pointer (some ⟨b, 0, none⟩), .slice a 124 cap] w.drew fun e w' => ∃ g, e = .returned (.slice (some ⟨g, 0, none⟩) 4 4) ∧ SlAt w' (.slice (some ⟨g, 0, none⟩) 4 4) (bytes4 X) ∧ SlAt w' (.slice a' 4 cap') D ∧ CoS w' b base top n m ∧ Kept (InCo base top) w w') := by
      have hd : Kept (fun _ => False) w w.drew := (Kept.refl _ _).drew
      refine (ssum_any w.drew b base top n m (H.out.keep hd (fun _ _ h => h)) _ T X HX.out ((HST.out w HS.out).kept hd (fun _ _ h => h)) (fun _ => far_block HF.out) (by rw [HTL.out]; decide) HT256.out).mono ?_
      rintro e w4 ⟨g4, rfl, h4, hc4, hk4⟩
      have hk5 : Kept (InCo base top) w w4 := (hd.mono (fun _ _ h => h.elim)).trans hk4
      exact ⟨g4, rfl, SlAt.of_owns h4, HSD.out w4 (HS.out.co hk5 (fun _ => HF.out)), hc4, hk5⟩
    clear H HS HX HSD HST HF HT256
    go_enter Tryz.func17, Tryz.ntmps17
    go_upto_region 1 with fail
    go_region_with (first
      | (go_at_call 22; refine HCS.out.mono ?_; rintro e w4 ⟨g4, rfl, h4, hd4, hc4, hk4⟩; have H4 := hid_of h4; have HD4 := hid_of hd4; have HC4 := hid_of hc4; have HK4 := hid_of hk4; clear h4 hd4 hc4 hk4)
      | (go_at_call 23; refine (bequal_any _ _ _ 4 4 4 _ (bytes4 X) D (length_bytes4 X) HDL.out (by decide) (by decide) H4.out HD4.out (bytes4_lt X) HD256.out q HQ.out).mono ?_; rintro e w5 ⟨rfl, rfl⟩))
    all_goals go_wp2_with fail
    all_goals go_ret
    all_goals exact ⟨rfl, HC4.out, HK4.out⟩
  · have hb : ((l.length : Int) == 128) = false := beq_eq_false_iff_ne.2 (by omega)
    have hq' : q = false := by rw [hq]; exact decide_eq_false (fun h => h128 h.1)
    have H := hid_of h
    subst hq'
    clear h hs hf h256 hq h128
    go_enter Tryz.func17, Tryz.ntmps17
    go_upto_region 1 with fail
    go_quiet (fail)
    go_wp2_with fail
    go_ret
    exact ⟨rfl, H.out.keep (F := fun _ => False) ⟨rfl, rfl, rfl, Nat.le_refl _, fun _ _ _ => rfl⟩ (fun _ _ h => h), ⟨rfl, rfl, rfl, Nat.le_refl _, fun _ _ _ => rfl⟩⟩

end Go.Proofs.YtejgkgnocgplbabGreat

/- Blocks one behind the other; rests of rows of numbers. -/
namespace Go.Proofs.YtejgkgnocgplbabGreat
set_option linter.unusedVariables false
set_option linter.unusedSimpArgs false
open Go.RowKit Dg Cr

theorem allT_len (f : Nat) (x : List Int) : (allT f x).length ≤ f := by
  induction f generalizing x with
  | zero => exact Nat.le_refl _
  | succ f ih =>
    unfold allT
    split
    · simp
    · have := ih (x.drop (manyN x))
      simp
      exact this
theorem blocksOf_len (x : List Int) : (blocksOf x).length ≤ x.length := allT_len _ _
theorem blocksOf_end {x : List Int} (hS : allS x) (h : blocksOf x = []) : x.length = 0 := by
  rcases Nat.eq_zero_or_pos x.length with h0 | h0
  · exact h0
  · rw [blocksOf_cons hS h0] at h
    cases h
/-- The block that comes next. -/
theorem blocksOf_step {X R : List Int} {i : Nat} (hS : allS R) (h : blocksOf R = (blocksOf X).drop i) (hi : i < (blocksOf X).length) : 1 ≤ R.length ∧ (blocksOf X)[i]? = some (packL R, manyN R) ∧ blocksOf (R.drop (manyN R)) = (blocksOf X).drop (i + 1) := by
  have hpos : 1 ≤ R.length := by
    rcases Nat.eq_zero_or_pos R.length with h0 | h0
    · rw [blocksOf_nil h0] at h
      have := congrArg List.length h
      simp at this
      omega
    · exact h0
  have h1 := blocksOf_cons hS hpos
  rw [h] at h1
  refine ⟨hpos, ?_, ?_⟩
  · have h2 := congrArg (fun q : List (List Nat × Nat) => q[0]?) h1
    simpa using h2
  · have h2 := congrArg List.tail h1
    rw [List.tail_drop] at h2
    exact h2.symm
theorem Ns.rest {w : World} {a : Option Addr} {cap : Nat} {l : List Int} (h : Ns w a cap l) (k : Nat) (hk : k ≤ l.length) : Ns w (lowI a cap k) (cap - k) (l.drop k) := by
  refine ⟨h.at_.drop h.le k, by have := h.le; simp; omega, fun e => ?_⟩
  unfold lowI at e
  split at e
  · omega
  · cases a with
    | none => have := h.nil rfl; omega
    | some y => cases e
theorem lowI_block {a : Option Addr} {cap k B : Nat} (h : ∀ y, a = some y → y.block < B) : ∀ y, lowI a cap k = some y → y.block < B := by
  intro y hy
  unfold lowI at hy
  split at hy
  · exact h y hy
  · cases a with
    | none => cases hy
    | some z =>
      cases hy
      have h1 := h z rfl
      have e : (z.add k).block = z.block := by unfold Addr.add; split <;> rfl
      rw [e]
      exact h1
theorem allS_app {x y : List Int} (hx : allS x) (hy : allS y) : allS (x ++ y) := fun v hv => by
  rcases List.mem_append.1 hv with h | h
  · exact hx v h
  · exact hy v h
/-- Rows of bytes of one's own in a slice, all of it below T. -/
def RowsT (w : World) (B T : Nat) (a : Option Addr) (R : List (List Nat)) : Prop :=
  ∀ (r : Nat) (L : List Nat), R[r]? = some L → ∃ b off g c, a = some ⟨b, off, none⟩ ∧ B ≤ b ∧ b < T ∧ g < T ∧ w.cell? ⟨b, off + r, none⟩ = some (.slice (some ⟨g, 0, none⟩) L.length c) ∧ OwnBytes w B (.slice (some ⟨g, 0, none⟩) L.length c) L
theorem RowsB.below {w : World} {B : Nat} {a : Option Addr} {R : List (List Nat)} (h : RowsB w B a R) : RowsT w B w.heap.size a R := fun r L hL => by
  obtain ⟨b, off, g, c, h1, h2, h3, h4⟩ := h r L hL
  exact ⟨b, off, g, c, h1, h2, World.block_lt_of_cell? w _ h3, (World.ownsRow.lt h4 g rfl).2, h3, h4⟩
theorem RowsT.kept {w w' : World} {B T : Nat} {a : Option Addr} {R : List (List Nat)} {F : Nat → Prop} (h : RowsT w B T a R) (hk : Kept F w w') (hF : ∀ k, F k → k < B ∨ T ≤ k) : RowsT w' B T a R := by
  intro r L hL
  obtain ⟨b, off, g, c, h1, h2, h3, h4, h5, h6⟩ := h r L hL
  have hb := World.block_lt_of_cell? w _ h5
  refine ⟨b, off, g, c, h1, h2, h3, h4, ?_, ?_⟩
  · rw [hk.cell hb (fun hf => by rcases hF b hf with h | h <;> omega)]
    exact h5
  · refine ownsRow_other h6 hk (fun k hk' hf => ?_)
    have h7 := World.ownsRow.lt h6 k hk'
    simp [Value.ownBlock] at hk'
    rcases hF k hf with h | h <;> omega
/-- Every block but the last one has 40 samples at least. -/
theorem blocksOf_forty {X R : List Int} {i : Nat} (hS : allS R) (hnext : blocksOf (R.drop (manyN R)) = (blocksOf X).drop (i + 1)) (hi : i + 1 < (blocksOf X).length) : 40 ≤ manyN R := by
  have h1 := manyN_least hS
  rcases Nat.lt_or_ge (manyN R) 40 with h | h
  · exfalso
    have h2 := (manyN_le R).1
    have h3 : (R.drop (manyN R)).length = 0 := by simp; omega
    rw [blocksOf_nil h3] at hnext
    have := congrArg List.length hnext
    simp at this
    omega
  · exact h

end Go.Proofs.YtejgkgnocgplbabGreat

/- No more than 64 samples are decoded. -/
namespace Go.Proofs.YtejgkgnocgplbabGreat
set_option linter.unusedVariables false
set_option linter.unusedSimpArgs false
open Go.RowKit Dg

theorem rest_most {x l : List Int} (h : (restOut x l).2 = 0) : (restOut x l).1.length ≤ 64 := by
  unfold restOut at h ⊢
  split at h
  · cases h
  · rename_i h1
    rw [if_neg h1]
    split at h
    · rename_i h2
      rw [if_pos h2]
      split at h
      · cases h
      · rename_i y hy
        split at h
        · cases h
        · rename_i h3
          rw [if_neg h3]
          show y.length ≤ 64
          omega
    · cases h
theorem lrest_most {x l c : List Int} (h : (lrestOut x l c).2 = 0) : (lrestOut x l c).1.length ≤ 64 := by
  unfold lrestOut at h ⊢
  split at h
  · cases h
  · rename_i h1
    rw [if_neg h1]
    split at h
    · rename_i h2
      rw [if_pos h2]
      split at h
      · cases h
      · rename_i y hy
        split at h
        · cases h
        · rename_i h3
          rw [if_neg h3]
          show y.length ≤ 64
          omega
    · cases h
theorem decD_most {ds : List Bool} {y : List Int} (h : decD ds = some y) : y.length ≤ 64 := by
  unfold decD at h
  obtain ⟨r1, -, h⟩ := Option.bind_eq_some_iff.1 h
  obtain ⟨r2, -, h⟩ := Option.bind_eq_some_iff.1 h
  split at h
  · cases h
  rename_i hg
  obtain ⟨q, hq, h⟩ := Option.bind_eq_some_iff.1 h
  obtain ⟨b, hb, h⟩ := Option.bind_eq_some_iff.1 h
  split at h
  case isFalse => cases h
  cases h
  have hql := sampsT_len _ _ _ hq
  unfold bodyT at hb
  by_cases h0 : r1.1 = 0
  · rw [if_pos h0] at hb; cases hb; simp; omega
  rw [if_neg h0] at hb
  by_cases h1 : r1.1 = 1
  · rw [if_pos h1] at hb; cases hb; rw [hql]; omega
  rw [if_neg h1] at hb
  by_cases h6 : r1.1 ≤ 6
  · rw [if_pos h6] at hb
    obtain ⟨r, -, g2⟩ := Option.bind_eq_some_iff.1 hb
    split at g2
    · rename_i hz; cases g2; exact rest_most hz
    · cases g2
  · rw [if_neg h6] at hb
    obtain ⟨c, -, g⟩ := Option.bind_eq_some_iff.1 hb
    obtain ⟨r, -, g2⟩ := Option.bind_eq_some_iff.1 g
    split at g2
    · rename_i hz; cases g2; exact lrest_most hz
    · cases g2

theorem decOut_two (l : List Nat) : (∃ y, decOut 2 l = (y, 0) ∧ y.length ≤ 1000000) ∨ decOut 2 l = ([], 2) := by
  unfold decOut
  cases h : decD (unpack l) with
  | none => exact .inr rfl
  | some x =>
    refine .inl ⟨x, rfl, ?_⟩
    have := decD_most h
    omega

end Go.Proofs.YtejgkgnocgplbabGreat

/- Open. -/
namespace Go.Proofs.YtejgkgnocgplbabGreat
set_option linter.unusedVariables false
set_option linter.unusedSimpArgs false
open Go.RowKit Dg Cr

/-- One more was opened; one more was sealed. -/
theorem CoS.open1 {w : World} {b base top n m : Nat} (h : CoS w b base top n m) (hm : m ≤ 1000000) :
    Calls Tryz.prog 19 #[.pointer (some ⟨b, 2, none⟩), .int .i64 1] w fun e w' => (∃ v, e = .returned v) ∧ CoS w' b base top n (m + 1) ∧ Kept (InCo base top) w w' := by
  obtain ⟨t, made, h0, h1, h2, h3, h4, h5⟩ := h
  refine (aadd_any ⟨b, 2, none⟩ (m : Int) 1 w h0.cell.2.2 (h0.froz 2) (by omega) (by omega) (by decide) (by decide)).mono ?_
  rintro e w' ⟨rfl, rfl⟩
  exact ⟨⟨_, rfl⟩, ⟨t, made, h0.opened (m + 1), h1, h2, h3, h4, by simpa [World.setCell] using h5⟩, Kept.setCell _ _ _ ⟨h3, h4⟩⟩
theorem CoS.seal1 {w : World} {b base top n m : Nat} (h : CoS w b base top n m) (hn : n ≤ 1000000) :
    Calls Tryz.prog 19 #[.pointer (some ⟨b, 1, none⟩), .int .i64 1] w fun e w' => (∃ v, e = .returned v) ∧ CoS w' b base top (n + 1) m ∧ Kept (InCo base top) w w' := by
  obtain ⟨t, made, h0, h1, h2, h3, h4, h5⟩ := h
  refine (aadd_any ⟨b, 1, none⟩ (n : Int) 1 w h0.cell.2.1 (h0.froz 1) (by omega) (by omega) (by decide) (by decide)).mono ?_
  rintro e w' ⟨rfl, rfl⟩
  exact ⟨⟨_, rfl⟩, ⟨t, made, h0.sealed (n + 1), h1, h2, h3, h4, by simpa [World.setCell] using h5⟩, Kept.setCell _ _ _ ⟨h3, h4⟩⟩

set_option maxRecDepth 100000 in
set_option maxHeartbeats 4000000 in
theorem sopen_any : OpenC CoS := by
  intro w b base top n m a cap l R hco hb hf hl hm h256 hR
  have HCO := hid_of hco
  have HB := hid_of hb
  have HF := hid_of hf
  have H256 := hid_of h256
  have htop : top ≤ w.heap.size := hco.lt.2.2
  unfold openOut at hR
  by_cases hw : wholeP l
  · rw [if_pos hw] at hR
    have HR := hid_of hR
    have HW : Hid (true = decide (wholeP l)) := (decide_eq_true hw).symm
    have h128 : 128 ≤ l.length := by rw [hw.1]; exact Nat.le_refl _
    have hle := hb.le
    have hsl : ∀ W : World, (Instr.sliceAt 28 (.slice a l.length cap) none (some (.int .i64 124)) none).run Tryz.prog W = .ok (.slice a 124 cap) W := fun W => slice_hi a l.length cap 124 (by omega) W
    have HT256 : Hid (∀ x ∈ l.take 124, x < 256) := fun x hx => h256 x (List.mem_of_mem_take hx)
    have htl : (l.take 124).length ≤ 1000000 := by rw [List.length_take]; omega
    clear hco hb hf h256 hR hw
    go_enter Tryz.func9, Tryz.ntmps9
    go_wp2_with fail
    refine (swhole_any w b base top n m a cap l HCO.out HB.out HF.out hl H256.out true HW.out).mono ?_
    rintro e w1 ⟨rfl, hco1, hk1⟩
    have HCO1 := hid_of hco1
    have HK1 := hid_of hk1
    have HS1 : Hid (SlAt w1 (.slice a 124 cap) (l.take 124)) := (HB.out.co hk1 HF.out).hi 124 (by omega)
    have hs1 : w.heap.size ≤ w1.heap.size := hk1.size
    clear hco1 hk1
    go_wp2_with fail
    refine (fdec_any w1 _ _ HS1.out htl HT256.out _ HR.out).mono ?_
    rintro e w2 ⟨v2, rfl, h2, hb2⟩
    have H2 := hid_of (h2.base hs1)
    have hkb : Kept (fun i => w1.heap.size ≤ i) w1 w2 := ⟨hb2.os, hb2.tape, hb2.output, hb2.size, fun i _ hf => hb2.block i (by omega)⟩
    have HCO2 : Hid (CoS w2 b base top n m) := HCO1.out.keep hkb (fun i hi hf => by have := hi.2; omega)
    have HK2 : Hid (Kept (InCo base top) w w2) := HK1.out.trans' hkb (fun i hi hf => by omega)
    have hs2 : w.heap.size ≤ w2.heap.size := HK2.out.size
    clear h2 hb2 hkb HCO1 HK1
    by_cases h0 : R.2 = 0
    · have hz : (R.2 == 0) = true := beq_iff_eq.2 h0
      have H0 := hid_of h0
      clear h0
      go_wp2_with fail
      refine (HCO2.out.open1 (by omega)).mono ?_
      rintro e w3 ⟨⟨v3, rfl⟩, hco3, hk3⟩
      have HCO3 := hid_of hco3
      have HK3 : Hid (Kept (InCo base top) w w3) := HK2.out.trans hk3
      have H3 : Hid (OwnInts w3 w.heap.size v2 R.1) := ownsRow_other H2.out hk3 (fun k hk hf => by
        have h5 := World.ownsRow.lt H2.out k hk
        have := hf.2
        omega)
      clear hco3 hk3
      go_wp2_with fail
      go_ret2
      refine ⟨v2, ?_, H3.out, ?_, HK3.out⟩
      · rfl
      · exact HCO3.out
    · have hz : (R.2 == 0) = false := beq_eq_false_iff_ne.2 h0
      have H0 := hid_of h0
      have HNIL : Hid (R.1 = []) := by
        rcases decOut_two (l.take 124) with ⟨y, h1, -⟩ | h1
        · rw [HR.out, h1] at h0; exact absurd rfl h0
        · rw [HR.out, h1]; exact rfl
      clear h0
      go_wp2_with fail
      go_ret2
      refine ⟨_, rfl, ?_, ?_, HK2.out⟩
      · rw [HNIL.out]; exact OwnInts.nil _ _
      · exact HCO2.out
  · rw [if_neg hw] at hR
    subst hR
    have HW : Hid (false = decide (wholeP l)) := (decide_eq_false hw).symm
    clear hco hb hf h256 hw
    go_enter Tryz.func9, Tryz.ntmps9
    go_wp2_with fail
    refine (swhole_any w b base top n m a cap l HCO.out HB.out HF.out hl H256.out false HW.out).mono ?_
    rintro e w1 ⟨rfl, hco1, hk1⟩
    have HCO1 := hid_of hco1
    have HK1 := hid_of hk1
    clear hco1 hk1
    go_wp2_with fail
    go_ret2
    exact ⟨_, rfl, OwnInts.nil _ _, HCO1.out, HK1.out⟩

end Go.Proofs.YtejgkgnocgplbabGreat

/- bytes.Clone, Unseal. -/
namespace Go.Proofs.YtejgkgnocgplbabGreat
set_option linter.unusedVariables false
set_option linter.unusedSimpArgs false
open Go.RowKit Dg Cr

theorem Below.kept0 {w w' : World} (hb : Below w.heap.size w w') : Kept (fun i => w.heap.size ≤ i) w w' := ⟨hb.os, hb.tape, hb.output, hb.size, fun i _ hf => hb.block i (by omega)⟩

set_option maxHeartbeats 1000000 in
/-- 'bytes.Clone' of a row that is not empty. -/
theorem bclone_any (w : World) (a : Option Addr) (n c : Nat) (l : List Nat) (hn : l.length = n) (h0 : 0 < n) (hl : n ≤ 1000000) (hc : n ≤ c) (h : SlAt w (.slice a n c) l) :
    Calls Tryz.prog 20 #[.slice a n c] w fun e w' => ∃ v, e = .returned v ∧ OwnBytes w' w.heap.size v l ∧ Below w.heap.size w w' := by
  subst hn
  obtain ⟨y, rfl⟩ : ∃ y, a = some y := by
    obtain ⟨ao, cp, hv, hcl⟩ := h
    cases hv
    obtain ⟨b, off, rfl, -⟩ := hcl 0 (l[0]'(by omega)) (by rw [List.getElem?_eq_getElem])
    exact ⟨_, rfl⟩
  have HBS : Hid (Bs w (some y) c l) := ⟨h, hc, fun e => by cases e⟩
  have qT : ∀ (w : World) (a : Option Addr) (n c n' c' : Nat), (binOp .eql 28 (.slice a n c) (.slice none n' c')).run Tryz.prog w = .ok (.bool a.isNone) w := fun w a n c n' c' => Lib.run_eql_slice_nil w _ _ a n c n' c' Tryz.underlying28
  have HB0 : Hid (Below w.heap.size w (w.alloc (.cells #[] 5))) := (Below.refl _ _).alloc (Nat.le_refl _) _
  have HO : Hid (OwnBytes (w.alloc (.cells #[] 5)) w.heap.size (.slice (some ⟨w.heap.size, 0, none⟩) 0 0) []) := own_new w w.heap.size #[] 0 [] rfl rfl (by decide) (Nat.le_refl _)
  clear h
  go_enter Tryz.func20, Tryz.ntmps20
  go_wp2_with (at_builtin; go_must (refine wpList_append_bytes _ rfl (.tmp 5) (.tmp 6) rfl w.heap.size _ [] rfl HO.out (some y) c l rfl (HBS.out.below HB0.out) (by simp; omega) HB0.out.size ?_))
  intro v2 w2 ho2 hk2 hv2
  have HO2 : Hid (OwnBytes w2 w.heap.size v2 l) := ho2.out
  have HB2 : Hid (Below w.heap.size w w2) := hk2.out.below_of HB0.out (fun k hf => by simp [Value.ownBlock] at hf; omega) HB0.out.size
  clear ho2 hk2 hv2
  go_wp2_with fail
  go_ret
  exact ⟨_, rfl, HO2.out, HB2.out⟩

set_option maxRecDepth 100000 in
set_option maxHeartbeats 4000000 in
theorem sunseal_any : UnsealC CoS := by
  intro w b base top n m a cap l R hco hb hf hl hm h256 hR
  have HCO := hid_of hco
  have HB := hid_of hb
  have HF := hid_of hf
  have H256 := hid_of h256
  have htop : top ≤ w.heap.size := hco.lt.2.2
  unfold unsealOut at hR
  by_cases hw : wholeP l
  · rw [if_pos hw] at hR
    subst hR
    have HW : Hid (true = decide (wholeP l)) := (decide_eq_true hw).symm
    have h128 : 128 ≤ l.length := by rw [hw.1]; exact Nat.le_refl _
    have hle := hb.le
    obtain ⟨T, hT⟩ : ∃ T, T = l.take 124 := ⟨_, rfl⟩
    have HTL : Hid (T.length = 124) := by show _ = _; rw [hT]; simp; omega
    have HST : Hid (∀ W, Bs W a cap l → SlAt W (.slice a 124 cap) T) := fun W hW => by rw [hT]; exact hW.hi 124 (by omega)
    rw [← hT]
    have hsl : ∀ W : World, (Instr.sliceAt 28 (.slice a l.length cap) none (some (.int .i64 124)) none).run Tryz.prog W = .ok (.slice a 124 cap) W := fun W => slice_hi a l.length cap 124 (by omega) W
    clear hco hb hf h256 hw hT
    go_enter Tryz.func10, Tryz.ntmps10
    go_wp2_with fail
    refine (swhole_any w b base top n m a cap l HCO.out HB.out HF.out hl H256.out true HW.out).mono ?_
    rintro e w1 ⟨rfl, hco1, hk1⟩
    have HCO1 := hid_of hco1
    have HK1 := hid_of hk1
    clear hco1 hk1
    go_wp2_with fail
    refine (HCO1.out.open1 (by omega)).mono ?_
    rintro e w4 ⟨⟨v4, rfl⟩, hco4, hk4⟩
    have HCO4 := hid_of hco4
    have HK4 : Hid (Kept (InCo base top) w w4) := HK1.out.trans hk4
    have hs4 : w.heap.size ≤ w4.heap.size := HK4.out.size
    have HC := hid_of (bclone_any w4 a 124 cap T HTL.out (by decide) (by decide) (by omega) (HST.out w4 (HB.out.co HK4.out HF.out)))
    clear hco4 hk4 HCO1 HK1
    go_wp2_with fail
    refine HC.out.mono ?_
    rintro e w5 ⟨v5, rfl, h5, hb5⟩
    have HO5 : Hid (OwnBytes w5 w.heap.size v5 T) := ownsRow_base h5 hs4
    have HCO5 : Hid (CoS w5 b base top n (m + 1)) := HCO4.out.keep (Below.kept0 hb5) (fun i hi hf => by have := hi.2; omega)
    have HK5 : Hid (Kept (InCo base top) w w5) := HK4.out.trans' (Below.kept0 hb5) (fun i hi hf => by omega)
    clear h5 hb5 HC
    go_wp2_with fail
    go_ret2
    exact ⟨_, rfl, HO5.out, HCO5.out, HK5.out⟩
  · rw [if_neg hw] at hR
    subst hR
    have HW : Hid (false = decide (wholeP l)) := (decide_eq_false hw).symm
    clear hco hb hf h256 hw
    go_enter Tryz.func10, Tryz.ntmps10
    go_wp2_with fail
    refine (swhole_any w b base top n m a cap l HCO.out HB.out HF.out hl H256.out false HW.out).mono ?_
    rintro e w1 ⟨rfl, hco1, hk1⟩
    have HCO1 := hid_of hco1
    have HK1 := hid_of hk1
    clear hco1 hk1
    go_wp2_with fail
    go_ret2
    exact ⟨_, rfl, OwnBytes.nil _ _, HCO1.out, HK1.out⟩

end Go.Proofs.YtejgkgnocgplbabGreat

/- 'copy(b, s)': bytes over the head of a row of bytes of the call's own. -/
namespace Go.Proofs.YtejgkgnocgplbabGreat
set_option linter.unusedVariables false
set_option linter.unusedSimpArgs false
open Go.RowKit Dg

/-- The bytes of l that fit laid over the head of L. -/
def over (l L : List Nat) : List Nat := l.take L.length ++ L.drop (min l.length L.length)
theorem length_over (l L : List Nat) : (over l L).length = L.length := by unfold over; simp; omega
theorem over_zeros {l : List Nat} {n : Nat} (h : l.length ≤ n) : over l (List.replicate n 0) = l ++ List.replicate (n - l.length) 0 := by
  unfold over
  rw [List.length_replicate, List.take_of_length_le h, List.drop_replicate, Nat.min_eq_left h]
theorem over_long {l L : List Nat} (h : L.length ≤ l.length) : over l L = l.take L.length := by
  unfold over
  rw [Nat.min_eq_right h, List.drop_length, List.append_nil]
theorem Kept.setRow (w : World) (g : Nat) (cs : Array Value) : Kept (fun k => k = g) w (w.setRow g cs) := ⟨rfl, rfl, rfl, by simp [World.setRow], fun k hk hf => setRow_other w g k cs hf⟩

theorem wpList_copy_bytes {P : Program} {w : World} {ops : Array Oper} {rest : List Oper} {o : Oper} {a : Act} {Q : Exit → Act → World → Prop} (hgd : o.guard = none) (d s : Operand) (dT sT : TypeId)
    (ho : o.op = .call { callee := .builtin .copy, args := #[d, s], argTypes := #[dT, sT] }) (hu : P.underlying dT = some (.slice 5)) (hsz : (P.info? 5).map (·.size) = some 1)
    (B g c : Nat) (L : List Nat) (hown : OwnBytes w B (.slice (some ⟨g, 0, none⟩) L.length c) L) (sp : Option Addr) (sCap : Nat) (l : List Nat) (hS : SlAt w (.slice sp l.length sCap) l)
    (hd : a.eval d = .slice (some ⟨g, 0, none⟩) L.length c) (hs : a.eval s = .slice sp l.length sCap)
    (h : ∀ w', Hid (OwnBytes w' B (.slice (some ⟨g, 0, none⟩) L.length c) (over l L)) → Hid (Kept (fun k => k = g) w w') → wpList P ops Q rest (a.put o.dst (goInt ((min l.length L.length : Nat) : Int))) w') : wpList P ops Q (o :: rest) a w := by
  by_cases h0 : min l.length L.length = 0
  · refine wpList_copy_nothing hgd d s dT sT ho 5 hu hsz _ _ _ _ _ _ hd hs h0 ?_
    have e : over l L = L := by
      unfold over
      rw [h0, List.drop_zero]
      have h1 : (l.take L.length).length = 0 := by rw [List.length_take]; omega
      rw [List.eq_nil_of_length_eq_zero h1]
      rfl
    have h2 := h w (by rw [e]; exact hown) (Kept.refl _ _)
    rw [h0] at h2
    exact h2
  · rcases hown.2 with ⟨e1, _⟩ | ⟨g', cap', cur, hv, hgb, hh, hncap, hm, hcs, htake⟩
    · cases e1
    · cases hv
      obtain ⟨ao, cp, hv2, hc⟩ := hS
      cases hv2
      obtain ⟨b, off, rfl, -⟩ := hc 0 (l[0]'(by omega)) (by rw [List.getElem?_eq_getElem])
      have hlen : (u8s (l.take L.length)).length = min l.length L.length := by simp [Nat.min_comm]
      have hcsz : L.length ≤ cur.size := by
        have h3 := congrArg List.length htake
        simp at h3
        omega
      refine wpList_copy_own hgd d s dT sT ho 5 hu hsz g 0 L.length c ⟨b, off, none⟩ l.length sCap hd hs cur 5 hh (u8s (l.take L.length)) hlen ?_ (by rw [hlen]; omega) ?_ ?_
      · intro j v hj
        rw [u8s_get] at hj
        obtain ⟨x, hx, rfl⟩ := Option.map_eq_some_iff.1 hj
        rw [List.getElem?_take] at hx
        split at hx
        · obtain ⟨b', off', hao, hcell⟩ := hc j x hx
          cases hao
          have hadd : (⟨b, off, none⟩ : Addr).add j = ⟨b, off + j, none⟩ := by simp [Addr.add]
          rw [hadd]
          exact hcell
        · cases hx
      · intro v hv
        obtain ⟨x, -, rfl⟩ := List.mem_map.1 hv
        rfl
      · have h4 := h (w.setRow g (cur.toList.take 0 ++ (u8s (l.take L.length) ++ cur.toList.drop (0 + (u8s (l.take L.length)).length))).toArray) ?_ (Kept.setRow _ _ _)
        · rw [hlen]
          rw [hlen] at h4
          exact h4
        · show OwnBytes _ _ _ _
          unfold OwnBytes
          rw [length_over]
          refine ⟨by simp [length_over], .inr ⟨g, c, _, rfl, hgb, setRow_heap w g _ _ 5 _ hh, hncap, hm, ?_, ?_⟩⟩
          · rw [hlen]; simp; omega
          · rw [hlen]
            unfold over
            have e1 : u8s (L.drop (min l.length L.length)) = (u8s L).drop (min l.length L.length) := by simp [u8s]
            rw [u8s_append, e1, ← htake, List.take_zero, List.nil_append, Nat.zero_add, List.take_append, hlen, List.drop_take, List.take_of_length_le (by rw [hlen]; omega)]

/-- The same over a row whose length is given by a number. -/
theorem wpList_copy_n {P : Program} {w : World} {ops : Array Oper} {rest : List Oper} {o : Oper} {a : Act} {Q : Exit → Act → World → Prop} (hgd : o.guard = none) (d s : Operand) (dT sT : TypeId)
    (ho : o.op = .call { callee := .builtin .copy, args := #[d, s], argTypes := #[dT, sT] }) (hu : P.underlying dT = some (.slice 5)) (hsz : (P.info? 5).map (·.size) = some 1)
    (B g c n : Nat) (L : List Nat) (hn : L.length = n) (hown : w.ownsRow B 5 1 (.slice (some ⟨g, 0, none⟩) n c) n (u8s L)) (sp : Option Addr) (sCap : Nat) (l : List Nat) (hS : SlAt w (.slice sp l.length sCap) l)
    (hd : a.eval d = .slice (some ⟨g, 0, none⟩) n c) (hs : a.eval s = .slice sp l.length sCap)
    (h : ∀ w' (k : Nat), Hid (w'.ownsRow B 5 1 (.slice (some ⟨g, 0, none⟩) n c) n (u8s (over l L))) → Hid (Kept (fun k => k = g) w w') → wpList P ops Q rest (a.put o.dst (goInt (k : Int))) w') : wpList P ops Q (o :: rest) a w := by
  subst hn
  refine wpList_copy_bytes hgd d s dT sT ho hu hsz B g c L hown sp sCap l hS hd hs (fun w' h1 h2 => h w' _ ?_ h2)
  have h3 := h1.out
  unfold OwnBytes at h3
  rw [length_over] at h3
  exact h3

/-- The bytes of l laid into L from place off on. -/
def into (L : List Nat) (off : Nat) (l : List Nat) : List Nat := L.take off ++ (l ++ L.drop (off + l.length))
theorem length_into {L l : List Nat} {off : Nat} (h : off + l.length ≤ L.length) : (into L off l).length = L.length := by unfold into; simp; omega
/-- 'copy(b[off:], s)': bytes into the midst of a row of the call's own, as a step of a region. -/
theorem run_copy_into {P : Program} {w : World} (dT sT ty : TypeId) (hu : P.underlying dT = some (.slice 5)) (hsz : (P.info? 5).map (·.size) = some 1)
    (B g c n off k dc : Nat) (L : List Nat) (hn : L.length = n) (hown : w.ownsRow B 5 1 (.slice (some ⟨g, 0, none⟩) n c) n (u8s L)) (b0 o0 sCap : Nat) (l : List Nat) (hk : l.length = k) (hfit : off + k ≤ n) (hS : SlAt w (.slice (some ⟨b0, o0, none⟩) k sCap) l) :
    ∃ w', (Builtin.copy_ #[dT, sT] ty #[.slice (some ⟨g, off, none⟩) k dc, .slice (some ⟨b0, o0, none⟩) k sCap]).run P w = .ok (goInt (k : Int)) w' ∧ w'.ownsRow B 5 1 (.slice (some ⟨g, 0, none⟩) n c) n (u8s (into L off l)) ∧ Kept (fun k => k = g) w w' := by
  subst hn hk
  rcases hown.2 with ⟨e1, _⟩ | ⟨g', cap', cur, hv, hgb, hh, hncap, hm, hcs, htake⟩
  · cases e1
  · cases hv
    have hlen : (u8s l).length = l.length := by simp
    have hcsz : L.length ≤ cur.size := by
      have h3 := congrArg List.length htake
      simp at h3
      omega
    have hrun := run_copy_row (P := P) w dT sT ty 5 g off l.length dc ⟨b0, o0, none⟩ l.length sCap cur 5 (u8s l) hu hsz hh (by rw [hlen]; exact (Nat.min_self _).symm) ?_ (by rw [hlen]; omega) ?_
    · rw [hlen] at hrun
      refine ⟨_, hrun, ?_, Kept.setRow _ _ _⟩
      refine ⟨by simp [length_into hfit], .inr ⟨g, c, _, rfl, hgb, setRow_heap w g _ _ 5 _ hh, hncap, hm, ?_, ?_⟩⟩
      · simp; omega
      · unfold into
        rw [u8s_append, u8s_append]
        have e1 : u8s (L.take off) = (u8s L).take off := by simp [u8s]
        have e2 : u8s (L.drop (off + l.length)) = (u8s L).drop (off + l.length) := by simp [u8s]
        rw [e1, e2, ← htake, Nat.mul_one, List.take_take, List.drop_take, Nat.min_eq_left (by omega : off ≤ L.length)]
        have h5 : (cur.toList.take off).length = off := by simp; omega
        simp only [List.toList_toArray]
        generalize cur.toList.take off = A at h5 ⊢
        generalize cur.toList.drop (off + l.length) = D
        rw [List.append_assoc, List.take_append, h5, List.take_append, hlen, List.take_of_length_le (l := A) (by omega), List.take_of_length_le (l := u8s l) (by rw [hlen]; omega), Nat.sub_sub]
    · intro j v hj
      rw [u8s_get] at hj
      obtain ⟨x, hx, rfl⟩ := Option.map_eq_some_iff.1 hj
      obtain ⟨ao, cp, hv2, hc⟩ := hS
      cases hv2
      obtain ⟨b', off'', hao, hcell⟩ := hc j x hx
      cases hao
      have hadd : (⟨b0, o0, none⟩ : Addr).add j = ⟨b0, o0 + j, none⟩ := by simp [Addr.add]
      rw [hadd]
      exact hcell
    · intro v hv
      obtain ⟨x, -, rfl⟩ := List.mem_map.1 hv
      rfl

end Go.Proofs.YtejgkgnocgplbabGreat

/- Rows of bytes and counts that grow beside each other (for All). -/
namespace Go.Proofs.YtejgkgnocgplbabGreat
set_option linter.unusedVariables false
set_option linter.unusedSimpArgs false
open Go.RowKit Dg Cr

theorem Tryz.infoRow : (Tryz.prog.info? 28).map (fun i => (i.zero, i.size, i.bytes)) = some (some (.slice none 0 0), 1, 24) := by kernel_rfl
/-- Sectors, each a row of its own, and counts: all from B on, apart from each other. -/
structure AllSt (B : Nat) (w : World) (vs vc : Value) (Ls : List (List Nat)) (ms : List Int) : Prop where
  rows : ∃ vals, w.ownsRow B 28 1 vs Ls.length vals ∧ ∀ (r : Nat) (L : List Nat), Ls[r]? = some L → ∃ g c, vals[r]? = some (.slice (some ⟨g, 0, none⟩) L.length c) ∧ OwnBytes w B (.slice (some ⟨g, 0, none⟩) L.length c) L ∧ vs.ownBlock ≠ some g ∧ vc.ownBlock ≠ some g
  cnt : OwnInts w B vc ms
  ap : ∀ k, vs.ownBlock = some k → vc.ownBlock ≠ some k
theorem AllSt.nil (B : Nat) (w : World) : AllSt B w (.slice none 0 0) (.slice none 0 0) [] [] :=
  ⟨⟨[], World.ownsRow_nil _ _ _ _, fun r L h => by simp at h⟩, OwnInts.nil _ _, fun k hk => by cases hk⟩
theorem AllSt.kept {B : Nat} {w w' : World} {vs vc : Value} {Ls : List (List Nat)} {ms : List Int} {F : Nat → Prop} (h : AllSt B w vs vc Ls ms) (hk : Kept F w w') (hF : ∀ k, F k → k < B ∨ w.heap.size ≤ k) : AllSt B w' vs vc Ls ms := by
  have key : ∀ {e : TypeId} {v : Value} {n : Nat} {xs : List Value}, w.ownsRow B e 1 v n xs → w'.ownsRow B e 1 v n xs := fun h1 => ownsRow_other h1 hk (fun k hk' hf => by
    have h2 := World.ownsRow.lt h1 k hk'
    rcases hF k hf with h3 | h3 <;> omega)
  obtain ⟨vals, h1, h2⟩ := h.rows
  refine ⟨⟨vals, key h1, fun r L hL => ?_⟩, key h.cnt, h.ap⟩
  obtain ⟨g, c, h3, h4, h5, h6⟩ := h2 r L hL
  exact ⟨g, c, h3, key h4, h5, h6⟩
theorem AllSt.below {B : Nat} {w w' : World} {vs vc : Value} {Ls : List (List Nat)} {ms : List Int} (h : AllSt B w vs vc Ls ms) (hb : Below w.heap.size w w') : AllSt B w' vs vc Ls ms :=
  h.kept (F := fun k => w.heap.size ≤ k) ⟨hb.os, hb.tape, hb.output, hb.size, fun k _ hf => hb.block k (by omega)⟩ (fun k hk => .inr hk)
theorem AllSt.rowsB {B : Nat} {w : World} {va : Option Addr} {k ca : Nat} {vc : Value} {Ls : List (List Nat)} {ms : List Int} (h : AllSt B w (.slice va k ca) vc Ls ms) : RowsB w B va Ls := by
  obtain ⟨vals, h1, h2⟩ := h.rows
  intro r L hL
  obtain ⟨g, c, h3, h4, -, -⟩ := h2 r L hL
  have hr : r < Ls.length := (List.getElem?_eq_some_iff.1 hL).1
  rcases h1.2 with ⟨-, h0⟩ | ⟨g', cap', cur, hv, hgb, hh, hncap, -, hcs, htake⟩
  · omega
  · cases hv
    refine ⟨g', 0, g, c, rfl, hgb, ?_, h4⟩
    have h5 := h3
    rw [← htake, List.getElem?_take, if_pos (by omega)] at h5
    rw [Nat.zero_add]
    simp only [World.cell?, hh]
    simpa using h5
theorem AllSt.form {B : Nat} {w : World} {vs vc : Value} {Ls : List (List Nat)} {ms : List Int} (h : AllSt B w vs vc Ls ms) : ∃ va ca vb cb, vs = .slice va Ls.length ca ∧ vc = .slice vb ms.length cb := by
  obtain ⟨vals, h1, -⟩ := h.rows
  obtain ⟨vb, cb, h2, -⟩ := h.cnt.ns
  rcases h1.2 with ⟨rfl, h0⟩ | ⟨g', cap', cur, hv, -⟩
  · exact ⟨none, 0, vb, cb, by rw [h0], h2⟩
  · exact ⟨_, cap', vb, cb, hv, h2⟩
/-- 'append(sectors, b)'. -/
theorem wpList_append_sector {P : Program} (w0 : World) {ops : Array Oper} {rest : List Oper} {o : Oper} {a : Act} {Q : Exit → Act → World → Prop}
    (hgd : o.guard = none) (s x : Operand) (t : TypeId) (ho : o.op = .call { callee := .builtin .append, args := #[s, x], argTypes := #[t, t] })
    (i : TypeInfo) (ht : P.underlying t = some (.slice 28)) (hi : P.info? 28 = some i) (hz : i.zero = some (.slice none 0 0)) (hsize : i.size = 1) (hby : i.bytes = 24)
    (B : Nat) (vs vc : Value) (Ls : List (List Nat)) (ms : List Int) (hs : a.eval s = vs) (hst : AllSt B w0 vs vc Ls ms) (g0 c0 : Nat) (L : List Nat) (hL : OwnBytes w0 B (.slice (some ⟨g0, 0, none⟩) L.length c0) L) (hn1 : vs.ownBlock ≠ some g0) (hn2 : vc.ownBlock ≠ some g0)
    (hx : a.eval x = .slice (some ⟨w0.heap.size, 0, none⟩) 1 1) (hl : Ls.length ≤ 1000000) (hB : B ≤ w0.heap.size)
    (h : ∀ va ca w', Hid (AllSt B w' (.slice va (Ls ++ [L]).length ca) vc (Ls ++ [L]) ms) → Hid (Kept (fun k => vs.ownBlock = some k) w0 w') → wpList P ops Q rest (a.put o.dst (.slice va (Ls ++ [L]).length ca)) w') : wpList P ops Q (o :: rest) a (w0.alloc (.cells #[.slice (some ⟨g0, 0, none⟩) L.length c0] 28)) := by
  obtain ⟨vals, h1, h2⟩ := hst.rows
  have hvl : vals.length = Ls.length := by have := h1.1; simpa using this
  refine wpList_append_mine _ hgd s x t ho B 28 i (.slice none 0 0) 1 24 ht hi hz hsize hby rfl (by decide) vs Ls.length vals hs (World.ownsRow.alloc h1 _) ⟨w0.heap.size, 0, none⟩ 1 1 [.slice (some ⟨g0, 0, none⟩) L.length c0] hx rfl ?c1 ?c2 (by decide) ?b1 ?b2 ?b3 ?_
  case c1 => intro j u hj; match j, hj with | 0, hj => simp at hj; subst hj; simp [Addr.add]
  case c2 => intro u hu; simp at hu; subst hu; rfl
  case b1 => unfold maxLen; omega
  case b2 => omega
  case b3 => simp; omega
  intro g cap w' H1 HG HN
  have hk : Kept (fun k => vs.ownBlock = some k) w0 w' := (Kept.alloc _ w0 _).trans (Kept.grown HG.out)
  have e : (Ls ++ [L]).length = Ls.length + 1 := by simp
  have hnew : vs.ownBlock = some g ∨ w0.heap.size ≤ g := by
    rcases HN.out with h3 | h3
    · exact .inl h3
    · simp at h3; exact .inr (by omega)
  have apart : ∀ {g1 c1 : Nat} {L1 : List Nat}, OwnBytes w0 B (.slice (some ⟨g1, 0, none⟩) L1.length c1) L1 → vs.ownBlock ≠ some g1 → g ≠ g1 := fun h3 h4 e1 => by
    subst e1
    rcases hnew with h5 | h5
    · exact h4 h5
    · have h6 : g < w0.heap.size := (World.ownsRow.lt h3 g rfl).2
      omega
  have stay : ∀ {g1 c1 : Nat} {L1 : List Nat}, OwnBytes w0 B (.slice (some ⟨g1, 0, none⟩) L1.length c1) L1 → vs.ownBlock ≠ some g1 → OwnBytes w' B (.slice (some ⟨g1, 0, none⟩) L1.length c1) L1 := fun h3 h4 => ownsRow_other h3 hk (fun k hk' hf => by simp [Value.ownBlock] at hk'; subst hk'; exact h4 hf)
  have goal : AllSt B w' (.slice (some ⟨g, 0, none⟩) (Ls ++ [L]).length cap) vc (Ls ++ [L]) ms := by
    refine ⟨⟨vals ++ [.slice (some ⟨g0, 0, none⟩) L.length c0], ?_, fun r L1 hL1 => ?_⟩, ownsRow_other hst.cnt hk (fun k hk' hf => hst.ap k hf hk'), fun k hk' e1 => ?_⟩
    · rw [e]; exact H1.out
    · by_cases hr : r < Ls.length
      · rw [List.getElem?_append_left hr] at hL1
        obtain ⟨g1, c1, h3, h4, h5, h6⟩ := h2 r L1 hL1
        exact ⟨g1, c1, by rw [List.getElem?_append_left (by omega)]; exact h3, stay h4 h5, fun e1 => by simp [Value.ownBlock] at e1; exact apart h4 h5 e1, h6⟩
      · have hr' : r = Ls.length := by
          have := (List.getElem?_eq_some_iff.1 hL1).1
          simp at this
          omega
        subst hr'
        simp at hL1
        subst hL1
        exact ⟨g0, c0, by rw [List.getElem?_append_right (by omega), hvl]; simp, stay hL hn1, fun e1 => by simp [Value.ownBlock] at e1; exact apart hL hn1 e1, hn2⟩
    · simp [Value.ownBlock] at hk'
      subst hk'
      rcases hnew with h5 | h5
      · exact hst.ap _ h5 e1
      · have := (World.ownsRow.lt hst.cnt _ e1).2; omega
  have h9 := h (some ⟨g, 0, none⟩) cap w' goal hk
  rw [e] at h9
  exact h9

/-- 'append(counts, y)'. -/
theorem wpList_append_count {P : Program} (w0 : World) {ops : Array Oper} {rest : List Oper} {o : Oper} {a : Act} {Q : Exit → Act → World → Prop}
    (hgd : o.guard = none) (s x : Operand) (t : TypeId) (ho : o.op = .call { callee := .builtin .append, args := #[s, x], argTypes := #[t, t] })
    (i : TypeInfo) (ht : P.underlying t = some (.slice 3)) (hi : P.info? 3 = some i) (hz : i.zero = some (.int .i64 0)) (hsize : i.size = 1) (hby : i.bytes = 8)
    (B : Nat) (vs vc : Value) (Ls : List (List Nat)) (ms : List Int) (hs : a.eval s = vc) (hst : AllSt B w0 vs vc Ls ms) (y : Int)
    (hx : a.eval x = .slice (some ⟨w0.heap.size, 0, none⟩) 1 1) (hl : ms.length ≤ 1000000) (hB : B ≤ w0.heap.size)
    (h : ∀ v' w', Hid (AllSt B w' vs v' Ls (ms ++ [y])) → Hid (Kept (fun k => vc.ownBlock = some k) w0 w') → wpList P ops Q rest (a.put o.dst v') w') : wpList P ops Q (o :: rest) a (w0.alloc (.cells #[.int .i64 y] 3)) := by
  refine wpList_append_int_mine w0 hgd s x t ho B i ht hi hz hsize hby vc ms hs hst.cnt y hx hl hB ?_
  intro v' w' h1 h2 h3
  obtain ⟨vals, h4, h5⟩ := hst.rows
  refine h v' w' ⟨⟨vals, ownsRow_other h4 h2 (fun k hk hf => hst.ap k hk hf), fun r L hL => ?_⟩, h1, fun k hk e => ?_⟩ h2
  · obtain ⟨g, c, h6, h7, h8, h9⟩ := h5 r L hL
    refine ⟨g, c, h6, ownsRow_other h7 h2 (fun k hk hf => ?_), h8, fun e => ?_⟩
    · simp [Value.ownBlock] at hk
      subst hk
      exact h9 hf
    · rcases h3 g e with h10 | h10
      · exact h9 h10
      · have := (World.ownsRow.lt h7 g rfl).2; omega
  · rcases h3 k e with h10 | h10
    · exact hst.ap k hk h10
    · have := (World.ownsRow.lt h4 k hk).2; omega

end Go.Proofs.YtejgkgnocgplbabGreat
