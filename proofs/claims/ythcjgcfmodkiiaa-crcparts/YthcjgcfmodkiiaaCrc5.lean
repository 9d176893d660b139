/- The document's example of sums; copies of bytes; Same at any bytes. -/
import Derived.Test.YthcjgcfmodkiiaaCrc4
import Derived.Laws.AppendOwnNone
import Derived.Laws.IdiomStrings
namespace Go.Proofs.Ythcjgcfmodkiiaa
set_option linter.unusedVariables false
set_option linter.unusedSimpArgs false
open Go.RowKit Dg Cr

theorem wf_u32 {x : Int} (h : (Lit.int .u32 x).wf = true) : 0 ≤ x ∧ x < 4294967296 := by
  simp [Lit.wf, IntKind.min, IntKind.max, IntKind.signed, IntKind.bits] at h
  omega
theorem SlAt.lt {w : World} {v : Value} {l : List Nat} (h : SlAt w v l) (hne : l ≠ []) : ∀ k, v.ownBlock = some k → k < w.heap.size := by
  obtain ⟨a1, c1, rfl, hc1⟩ := h
  have hpos : 0 < l.length := List.length_pos_iff.2 hne
  obtain ⟨b1, o1, rfl, e⟩ := hc1 0 l[0] (by simp)
  intro k hk
  cases hk
  exact World.block_lt_of_cell? w _ e
theorem SlAt.kept' {w w' : World} {v : Value} {l : List Nat} {F : Nat → Prop} (h : SlAt w v l) (hk : Kept F w w') (hF : l ≠ [] → ∀ k, v.ownBlock = some k → ¬ F k) : SlAt w' v l := by
  by_cases hne : l = []
  · subst hne
    obtain ⟨a1, c1, rfl, _⟩ := h
    exact ⟨a1, c1, rfl, fun j x hx => by simp at hx⟩
  · exact h.kept hk (hF hne)
theorem SlAt.drewN {w : World} {v : Value} {l : List Nat} (h : SlAt w v l) (n : Nat) : SlAt (w.drewN n) v l := h
theorem SlAt.of_row {w : World} {g : Nat} {l r : List Nat} {c : Nat} (h : RowIs w g (u8s (l ++ r))) : SlAt w (.slice (some ⟨g, 0, none⟩) l.length c) l := by
  refine ⟨some ⟨g, 0, none⟩, c, rfl, fun j x hx => ⟨g, 0, rfl, ?_⟩⟩
  have hj : j < l.length := (List.getElem?_eq_some_iff.1 hx).1
  rw [Nat.zero_add]
  exact h.cell (by rw [u8s_get, List.getElem?_append_left hj, hx]; rfl)

theorem tsum_at (w : World) (b : Nat) (m : Bool) (sv : Value) (l : List Nat) (x : Nat) (hx : x = (crc ones l).toNat) (ht : TbAt w b m) (h : SlAt w sv l) (hf : l ≠ [] → ∀ k, sv.ownBlock = some k → k ≠ b) (hl : l.length ≤ 1000000) (h256 : ∀ x ∈ l, x < 256) :
    Calls Try.prog 11 #[.pointer (some ⟨b, 0, none⟩), sv] w fun e w' => e = .returned (.int .u32 (x : Int)) ∧ TbAt w' b (m || !l.isEmpty) ∧ Kept (fun k => k = b) w w' := by
  rw [hx]; exact tsum_any w b m sv l ht h hf hl h256
theorem tadd_at (w : World) (b : Nat) (m : Bool) (s : Nat) (sv : Value) (l : List Nat) (x : Nat) (hs : s < 4294967296) (hx : x = (crc (BitVec.ofNat 32 s) l).toNat) (ht : TbAt w b m) (h : SlAt w sv l) (hf : l ≠ [] → ∀ k, sv.ownBlock = some k → k ≠ b) (hl : l.length ≤ 1000000) (h256 : ∀ x ∈ l, x < 256) :
    Calls Try.prog 19 #[.pointer (some ⟨b, 0, none⟩), .int .u32 (s : Int), sv] w fun e w' => e = .returned (.int .u32 (x : Int)) ∧ TbAt w' b (m || !l.isEmpty) ∧ Kept (fun k => k = b) w w' := by
  have e : (BitVec.ofNat 32 s).toNat = s := by rw [BitVec.toNat_ofNat]; omega
  have h1 := tadd_any w b m (BitVec.ofNat 32 s) sv l ht h hf hl h256
  unfold u32v at h1
  rw [e] at h1
  rw [hx]; exact h1

theorem rsum_at (w : World) (b : Value) (l : List Nat) (x : Nat) (hx : x = (crc ones l).toNat) (h : SlAt w b l) (hl : l.length ≤ 1000000) (h256 : ∀ x ∈ l, x < 256) :
    Calls Try.prog 17 #[b] w fun e w' => e = .returned (.int .u32 (x : Int)) ∧ w = w' := by
  rw [hx]; exact rsum_any w b l h hl h256
theorem slow_at (w : World) (b : Value) (l : List Nat) (x : Nat) (hx : x = (crc ones l).toNat) (h : SlAt w b l) (hl : l.length ≤ 1000000) (h256 : ∀ x ∈ l, x < 256) :
    Calls Try.prog 18 #[b] w fun e w' => e = .returned (.int .u32 (x : Int)) ∧ w = w' := by
  rw [hx]; exact slow_any w b l h hl h256
theorem radd_at (w : World) (s : Nat) (b : Value) (l : List Nat) (x : Nat) (hs : s < 4294967296) (hx : x = (crc (BitVec.ofNat 32 s) l).toNat) (h : SlAt w b l) (hl : l.length ≤ 1000000) (h256 : ∀ x ∈ l, x < 256) :
    Calls Try.prog 20 #[.int .u32 (s : Int), b] w fun e w' => e = .returned (.int .u32 (x : Int)) ∧ w = w' := by
  have e : (BitVec.ofNat 32 s).toNat = s := by rw [BitVec.toNat_ofNat]; omega
  have h1 := radd_any w (BitVec.ofNat 32 s) b l h hl h256
  unfold u32v at h1
  rw [e] at h1
  rw [hx]; exact h1

/-- "123456789" -/
def nine : List Nat := [49, 50, 51, 52, 53, 54, 55, 56, 57]
theorem crc_nine : (crc ones nine).toNat = 58124007 := by decide +kernel
/-- Bytes of a text, as bytes: the row is marked behind its end. -/
theorem run_marked (w : World) (C : Array Value) (n c : Nat) :
    Sem.run Try.prog (convert 22 22 (.slice (some ⟨w.heap.size, 0, none⟩) n c)) (w.alloc (.cells C 5)) = .ok (.slice (some ⟨w.heap.size, 0, none⟩) n c) (w.alloc (.cells C 5 (C.size, C.size + 1))) := by
  have hsh : (w.alloc (.cells C 5)).shape? w.heap.size = some (5, C.size) := by
    unfold World.shape?
    rw [heap_alloc_new]
  have hfr : (w.alloc (.cells C 5)).freeze ⟨w.heap.size, C.size, none⟩ 1 = w.alloc (.cells C 5 (C.size, C.size + 1)) := by
    have hm : ∀ (a : Array Obj) (x : Obj) (f : Obj → Obj), (a.push x).modify a.size f = a.push (f x) := by
      intro a x f
      apply Array.ext
      · simp
      · intro i h1 h2
        simp only [Array.getElem_modify, Array.getElem_push]
        by_cases h : a.size = i
        · subst h
          simp
        · have hi : i < a.size := by simp at h1; omega
          simp [h, hi]
    unfold World.freeze
    rw [if_neg (by decide)]
    show ({ w.alloc (.cells C 5) with heap := (w.heap.push (.cells C 5)).modify w.heap.size _ } : World) = _
    rw [hm]
    rfl
  simp [convert, run_underlying Try.underlying22, run_underlying Try.underlying5, markStringish, hsh]
  exact hfr
theorem nine_at (w : World) : SlAt (w.alloc (.cells #[.int .u8 49, .int .u8 50, .int .u8 51, .int .u8 52, .int .u8 53, .int .u8 54, .int .u8 55, .int .u8 56, .int .u8 57] 5 (9, 10))) (.slice (some ⟨w.heap.size, 0, none⟩) 9 9) nine := by
  refine ⟨some ⟨w.heap.size, 0, none⟩, 9, rfl, fun j x hx => ⟨w.heap.size, 0, rfl, ?_⟩⟩
  have hj : j < 9 := (List.getElem?_eq_some_iff.1 hx).1
  have hr : j = 0 ∨ j = 1 ∨ j = 2 ∨ j = 3 ∨ j = 4 ∨ j = 5 ∨ j = 6 ∨ j = 7 ∨ j = 8 := by omega
  rcases hr with h | h | h | h | h | h | h | h | h <;> subst h <;> simp [nine] at hx <;> subst hx <;> (simp only [World.cell?, heap_alloc_new]; rfl)

set_option maxHeartbeats 1000000 in
theorem wakes3_any (w : World) :
    Calls Try.prog 13 #[] w fun e w' => e = .returned (.bool true) ∧ Below w.heap.size w w' := by
  go_enter Try.func13, Try.ntmps13
  go_wp2_with fail
  refine (tnew_any w).mono ?_
  rintro e w1 ⟨rfl, ht1, hb1, hs1⟩
  have HT1 : Hid (TbAt w1 w.heap.size false) := ht1
  have HB1 : Hid (Below w.heap.size w w1) := hb1
  clear ht1 hb1
  go_wp2_with fail
  refine (tsum_at w1 w.heap.size false _ [] 4294967295 (by decide +kernel) HT1.out (SlAt.nil _) (fun _ k h => by cases h) (by decide) (fun x h => by cases h)).mono ?_
  rintro e w2 ⟨rfl, ht2, hk2⟩
  have HT2 : Hid (TbAt w2 w.heap.size false) := ht2
  have HB2 : Hid (Below w.heap.size w w2) := hk2.below_of HB1.out (fun k h => by omega) (by omega)
  have hs2 : w.heap.size < w2.heap.size := Nat.lt_of_lt_of_le hs1 hk2.size
  clear ht2 hk2
  have hcv := run_marked w2 #[.int .u8 49, .int .u8 50, .int .u8 51, .int .u8 52, .int .u8 53, .int .u8 54, .int .u8 55, .int .u8 56, .int .u8 57] 9 9
  go_wp2_with fail
  refine (tsum_at _ w.heap.size false _ nine 58124007 crc_nine.symm (HT2.out.kept (Kept.alloc (fun _ => False) w2 _) (fun h => h)) (nine_at w2) (fun _ k h => by simp [Value.ownBlock] at h; omega) (by decide) (by decide)).mono ?_
  rintro e w3 ⟨rfl, ht3, hk3⟩
  have HB3 : Hid (Below w.heap.size w w3) := hk3.below_of (HB2.out.alloc (by omega) _) (fun k h => by omega) (by simp; omega)
  clear ht3 hk3
  go_wp2
  go_ret
  exact ⟨rfl, HB3.out⟩

/-- A row of bytes of the call's own. -/
def OwnBytes (w : World) (base : Nat) (v : Value) (l : List Nat) : Prop := w.ownsRow base 5 1 v l.length (u8s l)

set_option maxHeartbeats 1000000 in
theorem copyB_any (w : World) (sv : Value) (l : List Nat) (h : SlAt w sv l) (hl : l.length ≤ 1000000) (h0 : ∀ n c, sv = .slice none n c → c = 0) :
    Calls Try.prog 15 #[sv] w fun e w' => ∃ v, e = .returned v ∧ OwnBytes w' w.heap.size v l ∧ Below w.heap.size w w' := by
  obtain ⟨i0, hi, hz0, hz1, hz2⟩ := info_parts Try.info5
  obtain ⟨a1, c1, rfl, hc1⟩ := h
  have HC : Hid (∀ j x, l[j]? = some x → ∃ b off, a1 = some ⟨b, off, none⟩ ∧ w.cell? ⟨b, off + j, none⟩ = some (.int .u8 ((x : Nat) : Int))) := hc1
  clear hc1
  by_cases hne : l = []
  · subst hne
    cases a1 with
    | none =>
      obtain rfl : c1 = 0 := h0 _ _ rfl
      go_enter Try.func15, Try.ntmps15
      go_wp2_with (at_builtin; go_must (refine wpList_append_own_none rfl _ (.tmp 3) 22 rfl w.heap.size 5 i0 1 Try.underlying22 hi (.slice none 0 0) 0 [] rfl (World.ownsRow_nil _ _ _ _) rfl ?_))
      go_ret
      exact ⟨_, rfl, World.ownsRow_nil _ _ _ _, Below.refl _ _⟩
    | some x =>
      go_enter Try.func15, Try.ntmps15
      go_wp2_with (at_builtin; go_must (refine wpList_append_own _ rfl _ (.tmp 3) 22 rfl w.heap.size 5 i0 (.int .u8 0) 1 1 Try.underlying22 hi hz0 hz1 hz2 rfl (by decide) (.slice none 0 0) 0 [] rfl (World.ownsRow_nil _ _ _ _) x 0 c1 [] rfl (by simp) ?c1 ?c2 ?b1 ?b2 (Nat.le_refl _) ?_))
      case c1 => intro j u hu; simp at hu
      case c2 => intro u hu; simp at hu
      case b1 => decide
      case b2 => decide
      intro v' w' ho' hg' _
      have H1 : Hid (OwnBytes w' w.heap.size v' []) := by show World.ownsRow _ _ _ _ _ _ _; simpa [u8s] using ho'
      have H2 : Hid (Below w.heap.size w w') := (Below.refl _ _).grown hg' (Nat.le_refl _) (fun k hk => by cases hk)
      clear ho' hg'
      go_wp2
      go_ret
      exact ⟨_, rfl, H1.out, H2.out⟩
  · have hpos : 0 < l.length := List.length_pos_iff.2 hne
    obtain ⟨b1, o1, rfl, _⟩ := HC.out 0 l[0] (by simp)
    go_enter Try.func15, Try.ntmps15
    go_wp2_with (at_builtin; go_must (refine wpList_append_own _ rfl _ (.tmp 3) 22 rfl w.heap.size 5 i0 (.int .u8 0) 1 1 Try.underlying22 hi hz0 hz1 hz2 rfl (by decide) (.slice none 0 0) 0 [] rfl (World.ownsRow_nil _ _ _ _) ⟨b1, o1, none⟩ l.length c1 (u8s l) rfl (by simp) ?c1 ?c2 ?b1 ?b2 (Nat.le_refl _) ?_))
    case c1 =>
      intro j u hu
      rw [u8s_get] at hu
      obtain ⟨x, hx, rfl⟩ := Option.map_eq_some_iff.1 hu
      obtain ⟨b, off, e, hc⟩ := HC.out j x hx
      cases e
      have hadd : (⟨b1, o1, none⟩ : Addr).add j = ⟨b1, o1 + j, none⟩ := by simp [Addr.add]
      rw [hadd]
      exact hc
    case c2 => intro u hu; simp [u8s] at hu; obtain ⟨x, _, rfl⟩ := hu; rfl
    case b1 => unfold maxLen; omega
    case b2 => omega
    intro v' w' ho' hg' _
    have H1 : Hid (OwnBytes w' w.heap.size v' l) := by show World.ownsRow _ _ _ _ _ _ _; simpa using ho'
    have H2 : Hid (Below w.heap.size w w') := (Below.refl _ _).grown hg' (Nat.le_refl _) (fun k hk => by cases hk)
    clear ho' hg'
    go_wp2
    go_ret
    exact ⟨_, rfl, H1.out, H2.out⟩

set_option maxHeartbeats 400000 in
theorem cutCopyB_any (w : World) (a : Option Addr) (len cap n : Nat) (l : List Nat) (h : SlAt w (.slice a (min len n) cap) l) (hn : n ≤ 4096) (hle : len ≤ cap) (hm : cap ≤ maxLen) (h0 : a = none → len = 0 ∧ cap = 0) :
    Calls Try.prog 9 #[.slice a len cap, .int .i64 n] w fun e w' => ∃ v, e = .returned v ∧ OwnBytes w' w.heap.size v l ∧ Below w.heap.size w w' := by
  have hl : l.length ≤ 1000000 := by
    obtain ⟨a1, c1, e, _⟩ := h
    injection e with _ e2
    omega
  have HC : Hid (Calls Try.prog 15 #[.slice a (min len n) cap] w fun e w' => ∃ v, e = .returned v ∧ OwnBytes w' w.heap.size v l ∧ Below w.heap.size w w') := copyB_any w _ l h hl (fun n c e => by cases a with
    | none => cases e; exact (h0 rfl).2
    | some x => cases e)
  have HD : Hid (Calls Try.prog 14 #[.slice a len cap, .int .i64 n] w fun e w' => e = .returned (.slice a (min len n) cap) ∧ w = w') := cut_any w a len cap n hn hle hm h0
  clear h h0 hle hm
  go_enter Try.func9, Try.ntmps9
  go_wp2_with (first
    | (go_at_call 14; refine HD.out.mono ?_; rintro e w1 ⟨rfl, rfl⟩)
    | (go_at_call 15; refine HC.out.mono ?_; rintro e w1 ⟨v, rfl, ho, hb⟩; have H1 : Hid (OwnBytes w1 w.heap.size v l) := ho; have H2 : Hid (Below w.heap.size w w1) := hb; clear ho hb))
  go_ret
  exact ⟨_, rfl, H1.out, H2.out⟩

set_option maxHeartbeats 1000000 in
/-- Same at unlike bytes. -/
theorem same_not (w : World) (v1 v2 : Value) (l1 l2 : List Nat) (h1 : SlAt w v1 l1) (h2 : SlAt w v2 l2) (hll : l2.length = l1.length) (hl : l1.length ≤ 1000000) (hne : l1 ≠ l2) :
    Calls Try.prog 23 #[v1, v2] w fun e w' => e = .returned (.bool false) ∧ ∃ n, w' = w.drewN n := by
  obtain ⟨a1, c1, rfl, hc1⟩ := h1
  obtain ⟨a2, c2, rfl, hc2⟩ := h2
  rw [hll]
  have H1 : Hid (∀ j x, l1[j]? = some x → ∃ b off, a1 = some ⟨b, off, none⟩ ∧ w.cell? ⟨b, off + j, none⟩ = some (.int .u8 ((x : Nat) : Int))) := hc1
  have H2 : Hid (∀ j x, l2[j]? = some x → ∃ b off, a2 = some ⟨b, off, none⟩ ∧ w.cell? ⟨b, off + j, none⟩ = some (.int .u8 ((x : Nat) : Int))) := hc2
  have HLL : Hid (l2.length = l1.length) := hll
  have HNE : Hid (l1 ≠ l2) := hne
  clear hc1 hc2 hll hne
  go_enter Try.func23, Try.ntmps23
  go_wp2
  go_loopw [5] (fun i wr => ∃ k m : Nat, k ≤ l1.length ∧ i = .int .i64 k ∧ Hid (l1.take k = l2.take k) ∧ wr = w.drewN m) (fun i _ => l1.length - (intOf i).toNat)
  case atStart => exact ⟨0, 0, Nat.zero_le _, rfl, rfl, rfl⟩
  case round =>
    obtain ⟨k, m, hk, rfl, hsame, rfl⟩ := hrel
    by_cases hkn : k < l1.length
    · have hk2 : k < l2.length := by rw [HLL.out]; exact hkn
      obtain ⟨b1, o1, rfl, e1⟩ := H1.out k l1[k] (by simp [hkn])
      obtain ⟨b2, o2, rfl, e2⟩ := H2.out k l2[k] (by simp [hk2])
      obtain ⟨x, hx⟩ : ∃ x : Nat, x = l1[k] := ⟨_, rfl⟩
      obtain ⟨y, hy⟩ : ∃ y : Nat, y = l2[k] := ⟨_, rfl⟩
      have HX : Hid (l1[k]? = some x) := by show _ = _; rw [hx]; simp [hkn]
      have HY : Hid (l2[k]? = some y) := by show _ = _; rw [hy]; simp [hk2]
      rw [← hx] at e1
      rw [← hy] at e2
      clear hx hy H1 H2 hk2
      by_cases hxy : x = y
      · have HXY : Hid (x = y) := hxy
        subst hxy
        go_wp2
        go_region
        all_goals go_wp2
        all_goals go_roundw
        case rel => exact ⟨k + 1, m + 1, by omega, by go_num, by show _ = _; rw [List.take_add_one, List.take_add_one, hsame.out, HX.out, HY.out], rfl⟩
        case measure => simp [intOf]; omega
      · have hxy' : ((x : Int) != (y : Int)) = true := by simp; omega
        go_wp2
        go_region
        all_goals go_wp2
        all_goals go_ret
        all_goals exact ⟨rfl, m + 1, rfl⟩
    · have e : k = l1.length := by omega
      exfalso
      have := hsame.out
      rw [e, List.take_length, List.take_of_length_le (by rw [HLL.out]; exact Nat.le_refl _)] at this
      exact HNE.out this

end Go.Proofs.Ythcjgcfmodkiiaa
