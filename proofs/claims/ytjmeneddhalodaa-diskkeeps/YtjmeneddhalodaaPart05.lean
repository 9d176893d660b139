/- The texts BytesC, Spoils, DkC, DkW, DkLast, DkOne, DkArr, Ints, one behind the other. -/
import Derived.Test.YtjmeneddhalodaaPart02
import Derived.Laws.BytesArg
import Derived.Lib.SliceRun
import Derived.Test.YtjmeneddhalodaaPart04
import Derived.Deep.CutRange
import Derived.Deep.RegionWith
import Derived.Deep.MidRow
import Derived.BigQuiet
import Derived.Test.YtjmeneddhalodaaPart01
import Derived.Laws.AppendOwnNone

/- bytes.Equal, bytes.Clone. -/
namespace Go.Proofs.Ytjmeneddhalodaa
set_option linter.unusedVariables false
set_option linter.unusedSimpArgs false
open Go.RowKit Dg

theorem Below.kept0 {w w' : World} (hb : Below w.heap.size w w') : Kept (fun i => w.heap.size ≤ i) w w' := ⟨hb.os, hb.tape, hb.output, hb.size, fun i _ hf => hb.block i (by omega)⟩

/-- The string of some bytes. -/
def strB (l : List Nat) : ByteArray := strOfNums (l.map fun n : Nat => (n : Int))
theorem conv_bytes (w : World) (a : Option Addr) (n c : Nat) (l : List Nat) (hn : l.length = n) (h0 : 0 < n) (h : SlAt w (.slice a n c) l) :
    (convert 30 9 (.slice a n c)).run Try.prog w = .ok (.string (strB l)) w := by
  subst hn
  obtain ⟨ao, cp, hv, hc⟩ := h
  cases hv
  obtain ⟨b, off, rfl, -⟩ := hc 0 (l[0]'h0) (by rw [List.getElem?_eq_getElem])
  unfold strB
  refine run_convert_bytes_arg (P := Try.prog) w 30 5 Try.underlying30 Try.underlying5 b off _ _ (l.map fun n : Nat => (n : Int)) (List.length_map ..) (fun i hi => ?_) 9 Try.underlying9
  obtain ⟨b', off', e, hcell⟩ := hc i (l[i]'hi) (by rw [List.getElem?_eq_getElem])
  cases e
  rw [hcell]
  simp [List.getD, List.getElem?_eq_getElem hi]
theorem strB_eq {l1 l2 : List Nat} (h1 : ∀ x ∈ l1, x < 256) (h2 : ∀ x ∈ l2, x < 256) : (strB l1).data.toList = (strB l2).data.toList ↔ l1 = l2 := by
  refine ⟨fun h => ?_, fun h => by rw [h]⟩
  unfold strB at h
  rw [strOfNums_data, strOfNums_data, List.map_map, List.map_map] at h
  have key : ∀ l : List Nat, (∀ x ∈ l, x < 256) → (l.map ((fun n : Int => UInt8.ofNat n.toNat) ∘ fun n : Nat => (n : Int))).map UInt8.toNat = l := by
    intro l hl
    rw [List.map_map]
    conv => rhs; rw [← List.map_id l]
    refine List.map_congr_left (fun x hx => ?_)
    have := hl x hx
    simp [UInt8.toNat_ofNat]
    omega
  have h3 := congrArg (List.map UInt8.toNat) h
  rwa [key l1 h1, key l2 h2] at h3
set_option maxHeartbeats 1000000 in
set_option maxRecDepth 100000 in
/-- 'bytes.Clone' of a row that is not empty. -/
theorem bclone_any (w : World) (a : Option Addr) (n c : Nat) (l : List Nat) (hn : l.length = n) (h0 : 0 < n) (hl : n ≤ 1000000) (hc : n ≤ c) (h : SlAt w (.slice a n c) l) :
    Calls Try.prog 39 #[.slice a n c] w fun e w' => ∃ v, e = .returned v ∧ OwnBytes w' w.heap.size v l ∧ Below w.heap.size w w' := by
  subst hn
  obtain ⟨y, rfl⟩ : ∃ y, a = some y := by
    obtain ⟨ao, cp, hv, hcl⟩ := h
    cases hv
    obtain ⟨b, off, rfl, -⟩ := hcl 0 (l[0]'(by omega)) (by rw [List.getElem?_eq_getElem])
    exact ⟨_, rfl⟩
  have HBS : Hid (Bs w (some y) c l) := ⟨h, hc, fun e => by cases e⟩
  have qT : ∀ (w : World) (a : Option Addr) (n c n' c' : Nat), (binOp .eql 30 (.slice a n c) (.slice none n' c')).run Try.prog w = .ok (.bool a.isNone) w := fun w a n c n' c' => Lib.run_eql_slice_nil w _ _ a n c n' c' Try.underlying30
  have HB0 : Hid (Below w.heap.size w (w.alloc (.cells #[] 5))) := (Below.refl _ _).alloc (Nat.le_refl _) _
  have HO : Hid (OwnBytes (w.alloc (.cells #[] 5)) w.heap.size (.slice (some ⟨w.heap.size, 0, none⟩) 0 0) []) := own_new w w.heap.size #[] 0 [] rfl rfl (by decide) (Nat.le_refl _)
  clear h
  go_enter Try.func39, Try.ntmps39
  go_wp2_with (at_builtin; go_must (refine wpList_append_bytes _ rfl (.tmp 5) (.tmp 6) rfl w.heap.size _ [] rfl HO.out (some y) c l rfl (HBS.out.below HB0.out) (by simp; omega) HB0.out.size ?_))
  intro v2 w2 ho2 hk2 hv2
  have HO2 : Hid (OwnBytes w2 w.heap.size v2 l) := ho2.out
  have HB2 : Hid (Below w.heap.size w w2) := hk2.out.below_of HB0.out (fun k hf => by simp [Value.ownBlock] at hf; omega) HB0.out.size
  clear ho2 hk2 hv2
  go_wp2_with fail
  go_ret
  exact ⟨_, rfl, HO2.out, HB2.out⟩

end Go.Proofs.Ytjmeneddhalodaa

/- Rows of bytes of which all cells are known, their room too: appends that make them, Spoil. -/
namespace Go.Proofs.Ytjmeneddhalodaa
set_option linter.unusedVariables false
set_option linter.unusedSimpArgs false
open Go.RowKit Dg

/-- A new row of bytes, or nil; behind its bytes its room has bytes, too. -/
def WholeB (w : World) (base : Nat) (v : Value) (l : List Nat) : Prop :=
  (v = .slice none 0 0 ∧ l = []) ∨ ∃ (g : Nat) (X : List Nat), v = .slice (some ⟨g, 0, none⟩) l.length X.length ∧ base ≤ g ∧ RowIs w g (u8s X) ∧ X.take l.length = l ∧ l.length ≤ X.length ∧ X.length ≤ maxLen
theorem WholeB.nil (w : World) (base : Nat) : WholeB w base (.slice none 0 0) [] := .inl ⟨rfl, rfl⟩
theorem WholeB.own {w : World} {base : Nat} {v : Value} {l : List Nat} (h : WholeB w base v l) : OwnBytes w base v l := by
  rcases h with ⟨rfl, rfl⟩ | ⟨g, X, rfl, hb, hr, ht, hl, hm⟩
  · exact World.ownsRow_nil _ _ _ _
  · have hr' : w.heap[g]? = some (.cells (u8s X).toArray 5 (0, 0)) := hr
    refine ⟨by simp, .inr ⟨g, X.length, (u8s X).toArray, rfl, hb, hr', hl, hm, by simp, ?_⟩⟩
    have e : (u8s X).take (l.length * 1) = u8s (X.take l.length) := by simp [u8s]
    rw [List.toList_toArray, e, ht]
theorem WholeB.kept {w w' : World} {base : Nat} {v : Value} {l : List Nat} {F : Nat → Prop} (h : WholeB w base v l) (hk : Kept F w w') (hF : ∀ k, v.ownBlock = some k → ¬ F k) : WholeB w' base v l := by
  rcases h with h | ⟨g, X, rfl, hb, hr, r⟩
  · exact .inl h
  · have hr' : w.heap[g]? = some (.cells (u8s X).toArray 5 (0, 0)) := hr
    exact .inr ⟨g, X, rfl, hb, by show w'.heap[g]? = _; rw [hk.block g (Array.getElem?_eq_some_iff.1 hr').1 (hF g rfl)]; exact hr', r⟩
theorem WholeB.base {w : World} {base base' : Nat} {v : Value} {l : List Nat} (h : WholeB w base v l) (hb : base' ≤ base) : WholeB w base' v l := by
  rcases h with h | ⟨g, X, e, hg, r⟩
  · exact .inl h
  · exact .inr ⟨g, X, e, Nat.le_trans hb hg, r⟩
set_option maxRecDepth 100000 in
set_option maxHeartbeats 1000000 in
theorem spoil_row (w : World) (g n len : Nat) (X : List Value) (hrow : RowIs w g X) (hX : ∀ u ∈ X, ∃ x : Int, u = .int .u8 x) (HN : Hid (X.length = n)) (hsm : n ≤ 9223372036854775807) (hlen : len ≤ n) :
    Calls Try.prog 33 #[.slice (some ⟨g, 0, none⟩) len n] w fun e w' => e = .returned (.tuple #[]) ∧ Kept (fun k => k = g) w w' := by
  have HR : Hid (RowIs w g X) := hrow
  have HX : Hid (∀ u ∈ X, ∃ x : Int, u = .int .u8 x) := hX
  have hsl := slice_hi (some ⟨g, 0, none⟩) len n n (Nat.le_refl _)
  clear hrow hX
  go_enter Try.func33, Try.ntmps33
  go_wp2
  go_loopw [10] (fun i wr => ∃ (j : Nat) (Y : List Value), j ≤ n ∧ i = .int .i64 j ∧ Hid (RowIs wr g Y) ∧ Hid (Y.length = n) ∧ Hid (∀ u ∈ Y, ∃ x : Int, u = .int .u8 x) ∧ Hid (Kept (fun k => k = g) w wr)) (fun i _ => n - (intOf i).toNat)
  case atStart => exact ⟨0, X, Nat.zero_le _, rfl, HR.out, HN.out, HX.out, Kept.refl _ _⟩
  case round =>
    obtain ⟨j, Y, hj, rfl, hrow, hYl, hY, hk⟩ := hrel
    by_cases hjn : j < n
    · obtain ⟨u, hu⟩ : ∃ u, Y[j]? = some u := by have := hYl.out; exact ⟨Y[j]'(by omega), by simp [this, hjn]⟩
      obtain ⟨x, hx⟩ := hY.out u (List.mem_of_getElem? hu)
      subst hx
      have hcell := hrow.out.cell hu
      have hfz := hrow.out.frozen j
      clear hu
      go_wp2
      go_roundw
      case rel =>
        refine ⟨j + 1, Y.set j _, by omega, by go_num, hrow.out.set _ _, ?_, ?_, hk.out.trans (Kept.setCell _ _ _ rfl)⟩
        · show _ = _
          simpa using hYl.out
        · intro u hu
          rcases List.mem_or_eq_of_mem_set hu with h | h
          · exact hY.out u h
          · exact ⟨_, h⟩
      case measure => simp [intOf]; omega
    · go_wp2
      go_end0
      exact ⟨rfl, hk.out⟩

/-- 'append([]byte(nil), x...)' of some bytes, the whole row told. -/
theorem wpList_append_whole (w : World) {ops : Array Oper} {rest : List Oper} {o : Oper} {a : Act} {Q : Exit → Act → World → Prop}
    (hgd : o.guard = none) (s x : Operand) (ho : o.op = .call { callee := .builtin .append, args := #[s, x], argTypes := #[30, 30] })
    (hs : a.eval s = .slice none 0 0) (xa : Option Addr) (xc n : Nat) (m : List Nat) (hn : m.length = n) (hx : a.eval x = .slice xa n xc) (hm : Bs w xa xc m) (h0 : 0 < n) (hl : n ≤ 1000000)
    (h : ∀ g c w', Hid (WholeB w' w.heap.size (.slice (some ⟨g, 0, none⟩) n c) m) → Hid (Kept (fun _ => False) w w') → wpList Try.prog ops Q rest (a.put o.dst (.slice (some ⟨g, 0, none⟩) n c)) w') : wpList Try.prog ops Q (o :: rest) a w := by
  subst hn
  obtain ⟨i0, hi, hz0, hz1, hz2⟩ := info_parts Try.info5
  obtain ⟨b, off, rfl, -⟩ := sl_cell hm.at_ (List.getElem?_eq_getElem h0)
  have hcell : ∀ j u, (u8s m)[j]? = some u → w.cell? ((⟨b, off, none⟩ : Addr).add j) = some u := by
    intro j u hu
    rw [u8s_get] at hu
    obtain ⟨y, hy, rfl⟩ := Option.map_eq_some_iff.1 hu
    obtain ⟨b', off', e, hc⟩ := sl_cell hm.at_ hy
    cases e
    have hadd : (⟨b, off, none⟩ : Addr).add j = ⟨b, off + j, none⟩ := by simp [Addr.add]
    rw [hadd]
    exact hc
  have hrun := run_append_nil (P := Try.prog) w 30 o.type 5 i0 (.int .u8 0) Try.underlying30 hi hz0 ⟨b, off, none⟩ m.length xc (u8s m) (by rw [hz1]; simp) hcell h0 (by omega) (by rw [hz2]; omega)
  have hge := grownCap_ge w m.length 0 5
  have hle := grownCap_le_maxLen w m.length 0 5 (by unfold maxLen; omega)
  refine wpList_plain hgd fun K hK => ?_
  unfold Oper.wp
  simp [execOp, ho, resolve, invoke, builtin, hs, hx, hrun, Result.andThen]
  refine hK _ _ (h w.heap.size (grownCap w m.length 0 5) _ (.inr ⟨w.heap.size, m ++ List.replicate (grownCap w m.length 0 5 - m.length) 0, ?_, Nat.le_refl _, ?_, ?_, ?_, ?_⟩) ?_)
  · simp; omega
  · show _ = _
    have e : (u8s (m ++ List.replicate (grownCap w m.length 0 5 - m.length) 0)).toArray = (u8s m).toArray ++ Builtin.zeroCells (Value.int .u8 0).cells (grownCap w m.length 0 5 - m.length) := by
      apply Array.ext'
      rw [u8s_append, Array.toList_append, zeros_u8]
    rw [e]
    exact heap_alloc_new w.drew _
  · simp
  · simp
  · simp; omega
  · exact ⟨rfl, rfl, rfl, by simp, fun k hk _ => Below.heap_alloc w.drew _ k hk⟩
set_option maxHeartbeats 1000000 in
set_option maxRecDepth 100000 in
/-- 'Copy' of some bytes, the whole row told. -/
theorem copyB_whole (w : World) (xa : Option Addr) (xc n : Nat) (m : List Nat) (hn : m.length = n) (hm : Bs w xa xc m) (h0 : 0 < n) (hl : n ≤ 1000000) :
    Calls Try.prog 24 #[.slice xa n xc] w fun e w' => ∃ v, e = .returned v ∧ WholeB w' w.heap.size v m ∧ Kept (fun _ => False) w w' := by
  have HM := hid_of hm
  have HN := hid_of hn
  clear hm hn
  go_enter Try.func24, Try.ntmps24
  go_wp2_with (at_builtin; go_must (refine wpList_append_whole w rfl _ (.tmp 3) rfl rfl xa xc n m HN.out rfl HM.out h0 hl ?_))
  intro g c w2 ho hk
  go_wp2_with fail
  go_ret
  exact ⟨_, rfl, ho.out, hk.out⟩

end Go.Proofs.Ytjmeneddhalodaa

/- What the laws of disk lean on: contracts of the program's disk that lies somewhere in memory. -/
namespace Go.Proofs.Ytjmeneddhalodaa
set_option linter.unusedVariables false
set_option linter.unusedSimpArgs false
open Go.RowKit Dg

abbrev DiP := World → Nat → (Nat → Prop) → (Nat → Prop) → Sk → Prop
/-- A call turned the disk: it has s' now. -/
def Moved (Di : DiP) (w w' : World) (b : Nat) (F G : Nat → Prop) (s' : Sk) : Prop := ∃ F' G' : Nat → Prop, Di w' b F' G' s' ∧ Kept F w w' ∧ Sub F' F w.heap.size ∧ Sub G' G w.heap.size
/-- What is known of a disk of package disk. -/
structure Dsk (Di : DiP) : Prop where
  arms : ∀ {w b F G s}, Di w b F G s → s.Fine ∧ (∀ k, F k → G k) ∧ (∀ k, G k → k < w.heap.size)
  keep : ∀ {w w' b F G s} {X : Nat → Prop}, Di w b F G s → Kept X w w' → (∀ k, G k → ¬ X k) → Di w' b F G s
  newB : ∀ (w : World) (n : Nat), 1 ≤ n → n ≤ 4096 → Calls Try.prog 10 #[.int .i64 (n : Int)] w fun e w' => ∃ (b : Nat) (F G : Nat → Prop), e = .returned (.tuple #[.pointer (some ⟨b, 0, none⟩), .int .i64 0]) ∧ Di w' b F G (newS n) ∧ (∀ k, G k → w.heap.size ≤ k) ∧ Below w.heap.size w w'
  writeB : ∀ (w : World) (b : Nat) (F G : Nat → Prop) (s : Sk) (i : Int) (a : Option Addr) (n cap : Nat) (l : List Nat), Di w b F G s → I64 i → l.length = n → Bs w a cap l → (∀ x ∈ l, x < 256) → n ≤ 1000000 → (l ≠ [] → ∀ y, a = some y → ¬ F y.block) → s.writes ≤ 1000000 → s.W.length ≤ 100000 →
    Calls Try.prog 12 #[.pointer (some ⟨b, 0, none⟩), .int .i64 i, .slice a n cap] w fun e w' => e = .returned (.int .i64 (s.writeR i l)) ∧ Moved Di w w' b F G (s.writeS i l)
  waitB : ∀ (w : World) (b : Nat) (F G : Nat → Prop) (s : Sk) (n : Nat), Di w b F G s → n = s.W.length → Calls Try.prog 17 #[.pointer (some ⟨b, 0, none⟩)] w fun e w' => e = .returned (.int .i64 (n : Int)) ∧ ∃ d, w' = w.drewN d
  crashB : ∀ (w : World) (b : Nat) (F G : Nat → Prop) (s : Sk) (a : Option Addr) (n cap : Nat) (l : List Bool), Di w b F G s → l.length = n → BlAt w a l → n ≤ 1000000 → (l ≠ [] → ∀ y, a = some y → ¬ F y.block) → s.W.length ≤ 100000 →
    Calls Try.prog 18 #[.pointer (some ⟨b, 0, none⟩), .slice a n cap] w fun e w' => e = .returned (.tuple #[]) ∧ Moved Di w w' b F G (s.crashS l)
  imageB : ∀ (w : World) (b : Nat) (F G : Nat → Prop) (s : Sk), Di w b F G s → Calls Try.prog 25 #[.pointer (some ⟨b, 0, none⟩)] w fun e w' => ∃ v, e = .returned v ∧ OwnBytes w' w.heap.size v s.B ∧ Di w' b F G s ∧ Kept (fun _ => False) w w'
/-- Its further calls, each for itself (a cut of the program may lack some). -/
def DNewNo : Prop := ∀ (w : World) (n : Int), ¬ (1 ≤ n ∧ n ≤ 4096) → I64 n → Calls Try.prog 10 #[.int .i64 n] w fun e w' => e = .returned (.tuple #[.pointer none, .int .i64 1]) ∧ Kept (fun _ => False) w w'
def DFrom (Di : DiP) : Prop := ∀ (w : World) (a : Option Addr) (n cap : Nat) (l : List Nat), l.length = n → Bs w a cap l → (∀ x ∈ l, x < 256) → diskLen n → Calls Try.prog 31 #[.slice a n cap] w fun e w' => ∃ (b : Nat) (F G : Nat → Prop), e = .returned (.tuple #[.pointer (some ⟨b, 0, none⟩), .int .i64 0]) ∧ Di w' b F G (fromS l) ∧ (∀ k, G k → w.heap.size ≤ k) ∧ Below w.heap.size w w'
def DFromNo : Prop := ∀ (w : World) (a : Option Addr) (n cap : Nat) (l : List Nat), l.length = n → Bs w a cap l → n ≤ 100000000 → ¬ diskLen n → Calls Try.prog 31 #[.slice a n cap] w fun e w' => e = .returned (.tuple #[.pointer none, .int .i64 1]) ∧ Kept (fun _ => False) w w'
def DLen (Di : DiP) : Prop := ∀ (w : World) (b : Nat) (F G : Nat → Prop) (s : Sk) (n : Nat), Di w b F G s → n = s.B.length / 128 → Calls Try.prog 53 #[.pointer (some ⟨b, 0, none⟩)] w fun e w' => e = .returned (.int .i64 (n : Int)) ∧ ∃ d, w' = w.drewN d
def DDead (Di : DiP) : Prop := ∀ (w : World) (b : Nat) (F G : Nat → Prop) (s : Sk) (x : Bool), Di w b F G s → x = s.dead → Calls Try.prog 14 #[.pointer (some ⟨b, 0, none⟩)] w fun e w' => e = .returned (.bool x) ∧ ∃ d, w' = w.drewN d
def DCounts (Di : DiP) : Prop := ∀ (w : World) (b : Nat) (F G : Nat → Prop) (s : Sk), Di w b F G s → Calls Try.prog 52 #[.pointer (some ⟨b, 0, none⟩)] w fun e w' => e = .returned (.tuple #[.int .i64 (s.reads : Int), .int .i64 (s.writes : Int), .int .i64 (s.flushes : Int)]) ∧ ∃ d, w' = w.drewN d
def DRead (Di : DiP) : Prop := ∀ (w : World) (b : Nat) (F G : Nat → Prop) (s : Sk) (i : Int), Di w b F G s → I64 i → s.reads ≤ 1000000 → s.W.length ≤ 100000 →
  Calls Try.prog 15 #[.pointer (some ⟨b, 0, none⟩), .int .i64 i] w fun e w' => ∃ v, e = .returned (.tuple #[v, .int .i64 (s.readR i).2]) ∧ WholeB w' w.heap.size v (s.readR i).1 ∧ ∃ F' G' : Nat → Prop, Di w' b F' G' (s.readS i) ∧ Kept F w w' ∧ Sub F' F w.heap.size ∧ Sub G' G w.heap.size ∧ ∀ k, v.ownBlock = some k → ¬ G' k
def DFlush (Di : DiP) : Prop := ∀ (w : World) (b : Nat) (F G : Nat → Prop) (s : Sk), Di w b F G s → s.flushes ≤ 1000000 → s.W.length ≤ 100000 → Calls Try.prog 16 #[.pointer (some ⟨b, 0, none⟩)] w fun e w' => e = .returned (.int .i64 s.flushR) ∧ Moved Di w w' b F G s.flushS
def DStop (Di : DiP) : Prop := ∀ (w : World) (b : Nat) (F G : Nat → Prop) (s : Sk) (a : Int), Di w b F G s → I64 a → Calls Try.prog 11 #[.pointer (some ⟨b, 0, none⟩), .int .i64 a] w fun e w' => e = .returned (.tuple #[]) ∧ Moved Di w w' b F G (s.stopS a)
def DPoke (Di : DiP) : Prop := ∀ (w : World) (b : Nat) (F G : Nat → Prop) (s : Sk) (i dg : Int), Di w b F G s → I64 i → I64 dg → s.W.length ≤ 100000 → Calls Try.prog 22 #[.pointer (some ⟨b, 0, none⟩), .int .i64 i, .int .i64 dg] w fun e w' => e = .returned (.bool (decide (s.pokes i dg))) ∧ Moved Di w w' b F G (s.pokeS i dg)
def DClone (Di : DiP) : Prop := ∀ (w : World) (b : Nat) (F G : Nat → Prop) (s : Sk), Di w b F G s → s.W.length ≤ 100000 → Calls Try.prog 28 #[.pointer (some ⟨b, 0, none⟩)] w fun e w' => ∃ (c : Nat) (F' G' : Nat → Prop), e = .returned (.pointer (some ⟨c, 0, none⟩)) ∧ Di w' c F' G' s ∧ Below w.heap.size w w' ∧ (∀ k, F' k → w.heap.size ≤ k) ∧ Sub G' G w.heap.size ∧ Apart F G'

theorem Dsk.draws {Di : DiP} (C : Dsk Di) {w : World} {b : Nat} {F G : Nat → Prop} {s : Sk} (h : Di w b F G s) (d : Nat) : Di (w.drewN d) b F G s := C.keep (X := fun _ => False) h ⟨rfl, rfl, rfl, Nat.le_refl _, fun _ _ _ => rfl⟩ (fun _ _ h => h)
theorem Dsk.grow {Di : DiP} (C : Dsk Di) {w w' : World} {b : Nat} {F G : Nat → Prop} {s : Sk} (h : Di w b F G s) (hb : Below w.heap.size w w') : Di w' b F G s := C.keep (X := fun _ => False) h (Kept.of_below hb) (fun _ _ h => h)
/-- What a call on a disk that lies from B on does to what lies below B. -/
theorem Kept.under {W w w' : World} {F : Nat → Prop} (hb : Below W.heap.size W w) (hk : Kept F w w') (hF : ∀ k, F k → W.heap.size ≤ k) : Below W.heap.size W w' := hk.below_of hb hF hb.size

set_option maxHeartbeats 1000000 in
set_option maxRecDepth 100000 in
/-- 'full(b)'. -/
theorem full_any (w : World) (a : Option Addr) (n cap : Nat) (l : List Nat) (hn : l.length = n) (hb : Bs w a cap l) (L : List Nat) (hL : L = over l (List.replicate 128 0)) :
    Calls Try.prog 13 #[.slice a n cap] w fun e w' => ∃ g, e = .returned (.slice (some ⟨g, 0, none⟩) 128 128) ∧ w'.ownsRow w.heap.size 5 1 (.slice (some ⟨g, 0, none⟩) 128 128) 128 (u8s L) ∧ Below w.heap.size w w' := by
  obtain ⟨i0, hi, hz0, hz1, hz2⟩ := info_parts Try.info5
  subst hn
  have HB := hid_of hb
  have HL := hid_of hL
  clear hb hL
  go_enter Try.func13, Try.ntmps13
  go_wp2_with (at_make; refine wpList_make_full _ rfl _ _ 30 rfl w.heap.size 5 i0 (.int .u8 0) 1 Try.underlying30 hi hz0 hz1 _ _ _ _ 128 rfl rfl rfl rfl (by rw [hz2]; omega) (by unfold maxLen; omega) (Nat.le_refl _) ?_)
  intro w2 hown hgr
  have hb2 : Below w.heap.size w w2 := (Below.refl _ _).grown hgr (Nat.le_refl _) (fun k hk => by cases hk)
  have HO : Hid (w2.ownsRow w.heap.size 5 1 (.slice (some ⟨w.heap.size, 0, none⟩) 128 128) 128 (u8s (List.replicate 128 0))) := by have e := made_zeros 128; rw [Nat.mul_one] at e; rw [← e]; exact hown
  have HS2 := hid_of (HB.out.below hb2)
  have HB2 := hid_of hb2
  clear hown hgr hb2 HB
  obtain ⟨g, hg⟩ : ∃ g, g = w.heap.size := ⟨_, rfl⟩
  have hgw : w.heap.size ≤ g := by omega
  rw [← hg] at HO ⊢
  clear hg
  go_wp2_with (refine wpList_copy_n rfl (.tmp 5) (.tmp 6) 30 30 rfl Try.underlying30 (by simp [hi, hz1]) g g 128 128 (List.replicate 128 0) (by simp) HO.out a cap l HS2.out.at_ rfl rfl ?_)
  intro w3 k3 hO3 hk3
  have HO3 : Hid (w3.ownsRow w.heap.size 5 1 (.slice (some ⟨g, 0, none⟩) 128 128) 128 (u8s L)) := by rw [HL.out]; exact ownsRow_base hO3.out hgw
  have HB3 : Hid (Below w.heap.size w w3) := Kept.under HB2.out hk3.out (fun k e => by omega)
  clear hO3 hk3
  go_wp2_with fail
  go_ret
  exact ⟨g, rfl, HO3.out, HB3.out⟩

end Go.Proofs.Ytjmeneddhalodaa

/- The document's example of chapter 10, over the bundle. -/
namespace Go.Proofs.Ytjmeneddhalodaa
set_option linter.unusedVariables false
set_option linter.unusedSimpArgs false
open Go.RowKit Dg

theorem newS_write1 (b : List Nat) (hb : b.length = 128) : (newS 1).writeR 0 b = 0 ∧ ((newS 1).writeS 0 b).W.length = 1 ∧ ((newS 1).writeS 0 b).B.length = 128 := by
  have hf : (newS 1).fits 0 := by unfold Sk.fits newS; simp
  have hno : ¬ (¬ (newS 1).fits 0 ∨ b.length ≠ 128) := fun e => by rcases e with e | e; exact e hf; exact e hb
  have ha : (newS 1).arm = newS 1 := rfl
  refine ⟨?_, ?_, ?_⟩
  · unfold Sk.writeR; rw [if_neg hno, ha]; rfl
  · unfold Sk.writeS; rw [if_neg hno, ha]; rfl
  · unfold Sk.writeS; rw [if_neg hno, ha]; simp [newS]
theorem crashS_len {s : Sk} (h : s.Fine) (keep : List Bool) : (s.crashS keep).B.length = s.B.length ∧ (s.crashS keep).W = [] := ⟨(keepTo_fine h _ _ (Nat.le_refl _)).1, rfl⟩
set_option maxRecDepth 100000 in
set_option maxHeartbeats 4000000 in
theorem wakes10_any {Di : DiP} (C : Dsk Di) (w : World) : Calls Try.prog 20 #[] w fun e w' => e = .returned (.bool true) ∧ Below w.heap.size w w' := by
  obtain ⟨i0, hi, hz0, hz1, hz2⟩ := info_parts Try.info5
  obtain ⟨Z, hZ⟩ : ∃ Z : List Nat, Z = List.replicate 128 0 := ⟨_, rfl⟩
  have hZl : Z.length = 128 := by rw [hZ]; simp
  have HZ := hid_of hZ
  have HZL := hid_of hZl
  have HZ256 : Hid (∀ x ∈ Z, x < 256) := by rw [hZ]; intro x hx; have := (List.mem_replicate.1 hx).2; omega
  obtain ⟨s1, hs1⟩ : ∃ s1, s1 = newS 1 := ⟨_, rfl⟩
  obtain ⟨s2, hs2⟩ : ∃ s2, s2 = s1.writeS 0 Z := ⟨_, rfl⟩
  obtain ⟨s3, hs3⟩ : ∃ s3, s3 = s2.crashS [] := ⟨_, rfl⟩
  have HF : Hid (s1.writeR 0 Z = 0 ∧ 1 = s2.W.length ∧ s2.B.length = 128 ∧ s1.writes ≤ 1000000 ∧ s1.W.length ≤ 100000) := by
    rw [hs2, hs1]
    obtain ⟨h1, h2, h3⟩ := newS_write1 Z hZl
    exact ⟨h1, h2.symm, h3, by simp [newS], by simp [newS]⟩
  have HS1 := hid_of hs1
  have HS2 := hid_of hs2
  have HS3 := hid_of hs3
  clear hZ hZl hs1 hs2 hs3
  go_enter Try.func20, Try.ntmps20
  go_wp2_with fail
  refine (C.newB w 1 (by decide) (by decide)).mono ?_
  rintro e w1 ⟨b, F, G, rfl, hd1, hG1, hb1⟩
  rw [← HS1.out] at hd1
  have HD1 := hid_of hd1
  have HG1 := hid_of hG1
  have HB1 := hid_of hb1
  have HA1 := hid_of (C.arms hd1)
  clear hd1 hG1 hb1
  go_wp2_with (at_make; refine wpList_make_full _ rfl _ _ 30 rfl w1.heap.size 5 i0 (.int .u8 0) 1 Try.underlying30 hi hz0 hz1 _ _ _ _ 128 rfl rfl rfl rfl (by rw [hz2]; omega) (by unfold maxLen; omega) (Nat.le_refl _) ?_)
  intro w2 hown hgr
  have hb2 : Below w1.heap.size w1 w2 := (Below.refl _ _).grown hgr (Nat.le_refl _) (fun k hk => by cases hk)
  have ho : w2.ownsRow w1.heap.size 5 1 (.slice (some ⟨w1.heap.size, 0, none⟩) 128 128) 128 (u8s Z) := by have e := made_zeros 128; rw [Nat.mul_one] at e; rw [HZ.out, ← e]; exact hown
  have HBS : Hid (Bs w2 (some ⟨w1.heap.size, 0, none⟩) 128 Z) := by
    refine Bs.own (base := w1.heap.size) ?_
    unfold OwnBytes
    rw [HZL.out]
    exact ho
  have HD2 := hid_of (C.grow HD1.out hb2)
  have HB2 : Hid (Below w.heap.size w w2) := HB1.out.trans (hb2.mono HB1.out.size)
  have HC := hid_of (C.writeB w2 b F G s1 0 _ 128 128 Z HD2.out ⟨by decide, by decide⟩ HZL.out HBS.out HZ256.out (by decide) (fun _ y hy hf => by cases hy; have := HA1.out.2.2 _ (HA1.out.2.1 _ hf); have e : w1.heap.size < w1.heap.size := this; omega) HF.out.2.2.2.1 HF.out.2.2.2.2)
  rw [HF.out.1, ← HS2.out] at HC
  clear hown hgr hb2 ho
  go_wp2_with fail
  refine HC.out.mono ?_
  rintro e w3 ⟨rfl, F3, G3, hd3, hk3, hF3, hG3⟩
  have HD3 := hid_of hd3
  have HB3 : Hid (Below w.heap.size w w3) := Kept.under HB2.out hk3 (fun k e => HG1.out k (HA1.out.2.1 k e))
  have HF3 : Hid (∀ k, F3 k → w.heap.size ≤ k) := fun k e => by rcases hF3 k e with h | h; exact HG1.out k (HA1.out.2.1 k h); exact Nat.le_trans HB2.out.size h
  clear hd3 hk3 hF3 hG3 HC
  go_wp2_with fail
  refine (C.waitB w3 b F3 G3 s2 1 HD3.out HF.out.2.1).mono ?_
  rintro e w4 ⟨rfl, d4, rfl⟩
  have HC4 := hid_of (C.crashB (w3.drewN d4) b F3 G3 s2 none 0 0 [] (C.draws HD3.out d4) rfl (BlAt.nil _ _) (by decide) (fun h => absurd rfl h) (by rw [← HF.out.2.1]; decide))
  rw [← HS3.out] at HC4
  have HA2 := hid_of (C.arms HD3.out).1
  go_wp2_with fail
  refine HC4.out.mono ?_
  rintro e w5 ⟨rfl, F5, G5, hd5, hk5, hF5, hG5⟩
  have HD5 := hid_of hd5
  have HB5 : Hid (Below w.heap.size w w5) := Kept.under (w := w3.drewN d4) ⟨HB3.out.os, HB3.out.tape, HB3.out.output, HB3.out.size, HB3.out.block⟩ hk5 HF3.out
  have HW5 : Hid (0 = s3.W.length) := by show _ = _; rw [HS3.out, (crashS_len HA2.out []).2]; rfl
  have HL5 : Hid (s3.B.length = 128) := by show _ = _; rw [HS3.out, (crashS_len HA2.out []).1]; exact HF.out.2.2.1
  clear hd5 hk5 hF5 hG5 HC4
  go_wp2_with fail
  refine (C.waitB w5 b F5 G5 s3 0 HD5.out HW5.out).mono ?_
  rintro e w6 ⟨rfl, d6, rfl⟩
  go_wp2_with fail
  refine (C.imageB (w5.drewN d6) b F5 G5 s3 (C.draws HD5.out d6)).mono ?_
  rintro e w7 ⟨v7, rfl, ho7, -, hk7⟩
  obtain ⟨a7, c7, rfl, -⟩ := OwnBytes.bs ho7
  rw [HL5.out]
  have HB7 : Hid (Below w.heap.size w w7) := Kept.under (w := w5.drewN d6) ⟨HB5.out.os, HB5.out.tape, HB5.out.output, HB5.out.size, HB5.out.block⟩ hk7 (fun _ h => h.elim)
  clear ho7 hk7
  go_wp2_with fail
  go_ret
  exact ⟨rfl, HB7.out⟩

end Go.Proofs.Ytjmeneddhalodaa

/- Which bytes a sector has behind writes, flushes, crashes; no program. -/
namespace Go.Proofs.Ytjmeneddhalodaa
set_option linter.unusedVariables false
set_option linter.unusedSimpArgs false
open Go.RowKit Dg

theorem sec_keep_same {B b : List Nat} {q : Nat} (h : q * 128 + 128 ≤ B.length) (hb : b.length = 128) : sec (keepB B (q, b)) q = b := by
  unfold sec keepB into
  have e : (B.take (q * 128)).length = q * 128 := by simp; omega
  show (List.drop (q * 128) (B.take (q * 128) ++ (b ++ B.drop (q * 128 + b.length)))).take 128 = b
  rw [List.drop_append, e, Nat.sub_self, List.drop_zero, List.drop_of_length_le (by omega), List.nil_append, List.take_append, hb, Nat.sub_self, List.take_zero, List.append_nil, List.take_of_length_le (by omega)]
theorem sec_keep_other {B b : List Nat} {q k : Nat} (h : q * 128 + 128 ≤ B.length) (hb : b.length = 128) (hk : k * 128 + 128 ≤ B.length) (hne : q ≠ k) : sec (keepB B (q, b)) k = sec B k := by
  have hl : (keepB B (q, b)).length = B.length := length_keepB h hb
  apply List.ext_getElem?
  intro j
  unfold sec
  rw [List.getElem?_take, List.getElem?_take]
  split
  · rename_i hj
    rw [List.getElem?_drop, List.getElem?_drop]
    unfold keepB into
    show (B.take (q * 128) ++ (b ++ B.drop (q * 128 + b.length)))[k * 128 + j]? = _
    have e : (B.take (q * 128)).length = q * 128 := by simp; omega
    rcases Nat.lt_or_ge k q with hkq | hkq
    · rw [List.getElem?_append_left (by omega), List.getElem?_take, if_pos (by omega)]
    · rw [List.getElem?_append_right (by omega), e, List.getElem?_append_right (by omega), List.getElem?_drop]
      congr 1
      omega
  · rfl
/-- The last write of sector k that is kept, of the first j. -/
def lastK (W : List (Nat × List Nat)) (f : Nat → Bool) (k : Nat) : Nat → Option (List Nat)
  | 0 => none
  | j + 1 => match W[j]? with
    | some p => if f j = true ∧ p.1 = k then some p.2 else lastK W f k j
    | none => lastK W f k j
theorem lastK_all (W : List (Nat × List Nat)) (k : Nat) : ∀ j, lastK W (fun _ => true) k j = lastW W k j
  | 0 => rfl
  | j + 1 => by
    unfold lastK lastW
    rw [lastK_all W k j]
    cases W[j]? with
    | none => rfl
    | some p => simp
theorem sec_keepTo {s : Sk} (h : s.Fine) (f : Nat → Bool) (k : Nat) (hk : k * 128 + 128 ≤ s.B.length) : ∀ j, j ≤ s.W.length → sec (keepTo s.B s.W f j) k = (lastK s.W f k j).getD (sec s.B k)
  | 0, _ => rfl
  | j + 1, hj => by
    have ih := sec_keepTo h f k hk j (by omega)
    obtain ⟨h1, -⟩ := keepTo_fine h f j (by omega)
    have hp : s.W[j]? = some s.W[j] := List.getElem?_eq_getElem (by omega)
    obtain ⟨h3, h4, -⟩ := h.w _ (List.getElem_mem (by omega : j < s.W.length))
    have e : s.W.getD j (0, []) = s.W[j] := by rw [List.getD_eq_getElem?_getD, hp]; rfl
    unfold keepTo lastK
    rw [hp]
    by_cases hf : f j = true
    · rw [if_pos hf, e]
      by_cases hq : s.W[j].1 = k
      · show _ = (if f j = true ∧ s.W[j].1 = k then some s.W[j].2 else _).getD _
        rw [if_pos ⟨hf, hq⟩]
        have := sec_keep_same (B := keepTo s.B s.W f j) (b := s.W[j].2) (q := s.W[j].1) (by rw [h1]; exact h3) h4
        rw [← hq]
        exact this
      · show _ = (if f j = true ∧ s.W[j].1 = k then some s.W[j].2 else _).getD _
        rw [if_neg (fun x => hq x.2), ← ih]
        exact sec_keep_other (b := s.W[j].2) (by rw [h1]; exact h3) h4 (by rw [h1]; exact hk) hq
    · rw [if_neg hf, ih]
      show _ = (if f j = true ∧ s.W[j].1 = k then some s.W[j].2 else _).getD _
      rw [if_neg (fun x => hf x.1)]
/-- A flush leaves what is read as it was. -/
theorem now_flush {s : Sk} (h : s.Fine) (ha : s.arm.dead = false) (k : Nat) (hk : k * 128 + 128 ≤ s.B.length) : s.flushS.now k = s.now k := by
  unfold Sk.flushS
  rw [if_neg (by rw [ha]; decide)]
  unfold Sk.now
  show (lastW [] k 0).getD (sec (keepTo s.B s.W (fun _ => true) s.W.length) k) = _
  rw [sec_keepTo h _ k hk _ (Nat.le_refl _), lastK_all]
  rfl
/-- What a crash leaves. -/
theorem now_crash {s : Sk} (h : s.Fine) (keep : List Bool) (k : Nat) (hk : k * 128 + 128 ≤ s.B.length) : (s.crashS keep).now k = (lastK s.W (fun j => keep.getD j false) k s.W.length).getD (sec s.B k) := by
  unfold Sk.crashS Sk.now
  show (lastW [] k 0).getD (sec (keepTo s.B s.W (fun j => keep.getD j false) s.W.length) k) = _
  rw [sec_keepTo h _ k hk _ (Nat.le_refl _)]
  rfl
theorem lastK_append (W : List (Nat × List Nat)) (p : Nat × List Nat) (f : Nat → Bool) (k : Nat) : ∀ j, j ≤ W.length → lastK (W ++ [p]) f k j = lastK W f k j
  | 0, _ => rfl
  | j + 1, hj => by
    unfold lastK
    rw [lastK_append W p f k j (by omega), List.getElem?_append_left (by omega)]
theorem lastK_push (W : List (Nat × List Nat)) (p : Nat × List Nat) (f : Nat → Bool) (k : Nat) : lastK (W ++ [p]) f k (W.length + 1) = if f W.length = true ∧ p.1 = k then some p.2 else lastK W f k W.length := by
  conv => lhs; unfold lastK
  rw [List.getElem?_append_right (Nat.le_refl _), Nat.sub_self]
  show (if f W.length = true ∧ p.1 = k then some p.2 else lastK (W ++ [p]) f k W.length) = _
  rw [lastK_append W p f k _ (Nat.le_refl _)]

end Go.Proofs.Ytjmeneddhalodaa

/- One disk, and blocks that are none of its. -/
namespace Go.Proofs.Ytjmeneddhalodaa
set_option linter.unusedVariables false
set_option linter.unusedSimpArgs false
open Go.RowKit Dg

/-- The disk d has s; the blocks X are none of its. -/
def One (Di : DiP) (X : Nat → Prop) (w : World) (d : Nat) (s : Sk) : Prop := ∃ F G : Nat → Prop, Di w d F G s ∧ ∀ k, X k → ¬ G k ∧ k < w.heap.size
theorem One.fine {Di : DiP} (C : Dsk Di) {X : Nat → Prop} {w : World} {d : Nat} {s : Sk} (h : One Di X w d s) : s.Fine := by
  obtain ⟨F, G, h1, -⟩ := h
  exact (C.arms h1).1
theorem One.less {Di : DiP} {X Y : Nat → Prop} {w : World} {d : Nat} {s : Sk} (h : One Di X w d s) (hY : ∀ k, Y k → X k) : One Di Y w d s := by
  obtain ⟨F, G, h1, h2⟩ := h
  exact ⟨F, G, h1, fun k e => h2 k (hY k e)⟩
/-- A step that turns none of its. -/
theorem One.keep {Di : DiP} (C : Dsk Di) {X Y : Nat → Prop} {w w' : World} {d : Nat} {s : Sk} (h : One Di X w d s) (hk : Kept (fun k => X k ∨ w.heap.size ≤ k) w w') (hY : ∀ k, Y k → X k ∨ (w.heap.size ≤ k ∧ k < w'.heap.size)) : One Di Y w' d s := by
  obtain ⟨F, G, h1, h2⟩ := h
  have a1 := C.arms h1
  refine ⟨F, G, C.keep h1 hk (fun k e e2 => ?_), fun k e => ?_⟩
  · rcases e2 with e2 | e2
    · exact (h2 k e2).1 e
    · have := a1.2.2 k e; omega
  · rcases hY k e with e1 | ⟨e1, e2⟩
    · exact ⟨(h2 k e1).1, Nat.lt_of_lt_of_le (h2 k e1).2 hk.size⟩
    · exact ⟨fun f => by have := a1.2.2 k f; omega, e2⟩
theorem One.draws {Di : DiP} (C : Dsk Di) {X : Nat → Prop} {w : World} {d : Nat} {s : Sk} (h : One Di X w d s) (n : Nat) : One Di X (w.drewN n) d s :=
  h.keep C ⟨rfl, rfl, rfl, Nat.le_refl _, fun _ _ _ => rfl⟩ (fun k e => .inl e)
/-- A call. -/
theorem One.call {Di : DiP} (C : Dsk Di) {X : Nat → Prop} {w : World} {d f : Nat} {s s' : Sk} {args : Array Value} {P : Ending → Prop} (h : One Di X w d s)
    (hc : ∀ F G : Nat → Prop, Di w d F G s → (∀ k, X k → ¬ F k) → Calls Try.prog f args w fun e w' => P e ∧ Moved Di w w' d F G s') :
    Calls Try.prog f args w fun e w' => P e ∧ One Di X w' d s' ∧ Kept (fun k => ¬ X k) w w' := by
  obtain ⟨F, G, h1, h2⟩ := h
  have a1 := C.arms h1
  refine (hc F G h1 (fun k e f => (h2 k e).1 (a1.2.1 k f))).mono ?_
  rintro e w' ⟨hP, F', G', m1, m2, m3, m4⟩
  refine ⟨hP, ⟨F', G', m1, fun k e => ⟨fun f => ?_, Nat.lt_of_lt_of_le (h2 k e).2 m2.size⟩⟩, m2.mono (fun i _ e e2 => (h2 i e2).1 (a1.2.1 i e))⟩
  rcases m4 k f with f1 | f1
  · exact (h2 k e).1 f1
  · have := (h2 k e).2; omega
theorem one_new {Di : DiP} (C : Dsk Di) (w : World) (n : Nat) (h1 : 1 ≤ n) (h2 : n ≤ 4096) : Calls Try.prog 10 #[.int .i64 (n : Int)] w fun e w' => ∃ b : Nat, e = .returned (.tuple #[.pointer (some ⟨b, 0, none⟩), .int .i64 0]) ∧ One Di (fun k => k < w.heap.size) w' b (newS n) ∧ Below w.heap.size w w' :=
  (C.newB w n h1 h2).mono fun e w' ⟨b, F, G, e1, e2, e3, e4⟩ => ⟨b, e1, ⟨F, G, e2, fun k hk => ⟨fun f => by have := e3 k f; omega, Nat.lt_of_lt_of_le hk e4.size⟩⟩, e4⟩
theorem one_write {Di : DiP} (C : Dsk Di) {X : Nat → Prop} {w : World} {d : Nat} {s : Sk} (h : One Di X w d s) (i : Int) (hi : I64 i) (g n cap : Nat) (l : List Nat) (hn : l.length = n) (hb : Bs w (some ⟨g, 0, none⟩) cap l) (h256 : ∀ x ∈ l, x < 256) (hnl : n ≤ 1000000) (hX : X g) (hc : s.writes ≤ 1000000) (hW : s.W.length ≤ 100000) (R : Int) (hR : R = s.writeR i l) (s2 : Sk) (hs2 : s2 = s.writeS i l) :
    Calls Try.prog 12 #[.pointer (some ⟨d, 0, none⟩), .int .i64 i, .slice (some ⟨g, 0, none⟩) n cap] w fun e w' => e = .returned (.int .i64 R) ∧ One Di X w' d s2 ∧ Kept (fun k => ¬ X k) w w' := by
  subst hR hs2
  exact h.call C (P := fun e => e = .returned (.int .i64 (s.writeR i l))) (fun F G hD hXF => C.writeB w d F G s i _ n cap l hD hi hn hb h256 hnl (fun _ y hy => by cases hy; exact hXF g hX) hc hW)
theorem one_stop {Di : DiP} (C : Dsk Di) (CS : DStop Di) {X : Nat → Prop} {w : World} {d : Nat} {s : Sk} (h : One Di X w d s) (a : Int) (ha : I64 a) :
    Calls Try.prog 11 #[.pointer (some ⟨d, 0, none⟩), .int .i64 a] w fun e w' => e = .returned (.tuple #[]) ∧ One Di X w' d (s.stopS a) ∧ Kept (fun k => ¬ X k) w w' :=
  h.call C (P := fun e => e = .returned (.tuple #[])) (fun F G hD hXF => CS w d F G s a hD ha)
theorem one_flush {Di : DiP} (C : Dsk Di) (CF : DFlush Di) {X : Nat → Prop} {w : World} {d : Nat} {s : Sk} (h : One Di X w d s) (hc : s.flushes ≤ 1000000) (hW : s.W.length ≤ 100000) (R : Int) (hR : R = s.flushR) (s2 : Sk) (hs2 : s2 = s.flushS) :
    Calls Try.prog 16 #[.pointer (some ⟨d, 0, none⟩)] w fun e w' => e = .returned (.int .i64 R) ∧ One Di X w' d s2 ∧ Kept (fun k => ¬ X k) w w' := by
  subst hR hs2
  exact h.call C (P := fun e => e = .returned (.int .i64 s.flushR)) (fun F G hD hXF => CF w d F G s hD hc hW)
theorem one_crash {Di : DiP} (C : Dsk Di) {X : Nat → Prop} {w : World} {d : Nat} {s : Sk} (h : One Di X w d s) (a : Option Addr) (n cap : Nat) (l : List Bool) (hn : l.length = n) (hb : BlAt w a l) (hnl : n ≤ 1000000) (hX : l ≠ [] → ∀ y, a = some y → X y.block) (hW : s.W.length ≤ 100000) (s2 : Sk) (hs2 : s2 = s.crashS l) :
    Calls Try.prog 18 #[.pointer (some ⟨d, 0, none⟩), .slice a n cap] w fun e w' => e = .returned (.tuple #[]) ∧ One Di X w' d s2 ∧ Kept (fun k => ¬ X k) w w' := by
  subst hs2
  exact h.call C (P := fun e => e = .returned (.tuple #[])) (fun F G hD hXF => C.crashB w d F G s a n cap l hD hn hb hnl (fun hne y hy => hXF _ (hX hne y hy)) hW)
theorem one_poke {Di : DiP} (C : Dsk Di) (CP : DPoke Di) {X : Nat → Prop} {w : World} {d : Nat} {s : Sk} (h : One Di X w d s) (i dg : Int) (hi : I64 i) (hd : I64 dg) (hW : s.W.length ≤ 100000) (R : Bool) (hR : R = decide (s.pokes i dg)) (s2 : Sk) (hs2 : s2 = s.pokeS i dg) :
    Calls Try.prog 22 #[.pointer (some ⟨d, 0, none⟩), .int .i64 i, .int .i64 dg] w fun e w' => e = .returned (.bool R) ∧ One Di X w' d s2 ∧ Kept (fun k => ¬ X k) w w' := by
  subst hR hs2
  exact h.call C (P := fun e => e = .returned (.bool (decide (s.pokes i dg)))) (fun F G hD hXF => CP w d F G s i dg hD hi hd hW)
theorem one_read {Di : DiP} (C : Dsk Di) (CR : DRead Di) {X : Nat → Prop} {w : World} {d : Nat} {s : Sk} (h : One Di X w d s) (i : Int) (hi : I64 i) (hc : s.reads ≤ 1000000) (hW : s.W.length ≤ 100000) (R : List Nat) (E : Int) (hR : (R, E) = s.readR i) (s2 : Sk) (hs2 : s2 = s.readS i) :
    Calls Try.prog 15 #[.pointer (some ⟨d, 0, none⟩), .int .i64 i] w fun e w' => ∃ v, e = .returned (.tuple #[v, .int .i64 E]) ∧ WholeB w' w.heap.size v R ∧ One Di (fun k => X k ∨ v.ownBlock = some k) w' d s2 ∧ Kept (fun k => ¬ X k) w w' := by
  obtain ⟨F, G, h1, h2⟩ := h
  have a1 := C.arms h1
  refine (CR w d F G s i h1 hi hc hW).mono ?_
  rintro e w' ⟨v, rfl, hv, F', G', m1, m2, m3, m4, m5⟩
  rw [← hR] at hv
  refine ⟨v, by rw [← hR], hv, ⟨F', G', by rw [hs2]; exact m1, fun k e => ?_⟩, m2.mono (fun i _ e e2 => (h2 i e2).1 (a1.2.1 i e))⟩
  rcases e with e | e
  · refine ⟨fun f => ?_, Nat.lt_of_lt_of_le (h2 k e).2 m2.size⟩
    rcases m4 k f with f1 | f1
    · exact (h2 k e).1 f1
    · have := (h2 k e).2; omega
  · exact ⟨m5 k e, (World.ownsRow.lt hv.own k e).2⟩
theorem one_dead {Di : DiP} (C : Dsk Di) (CD : DDead Di) {X : Nat → Prop} {w : World} {d : Nat} {s : Sk} (h : One Di X w d s) (x : Bool) (hx : x = s.dead) :
    Calls Try.prog 14 #[.pointer (some ⟨d, 0, none⟩)] w fun e w' => e = .returned (.bool x) ∧ ∃ n, w' = w.drewN n := by
  obtain ⟨F, G, h1, -⟩ := h
  exact CD w d F G s x h1 hx
theorem one_wait {Di : DiP} (C : Dsk Di) {X : Nat → Prop} {w : World} {d : Nat} {s : Sk} (h : One Di X w d s) (x : Nat) (hx : x = s.W.length) :
    Calls Try.prog 17 #[.pointer (some ⟨d, 0, none⟩)] w fun e w' => e = .returned (.int .i64 (x : Int)) ∧ ∃ n, w' = w.drewN n := by
  obtain ⟨F, G, h1, -⟩ := h
  exact C.waitB w d F G s x h1 hx
theorem one_image {Di : DiP} (C : Dsk Di) {X : Nat → Prop} {w : World} {d : Nat} {s : Sk} (h : One Di X w d s) :
    Calls Try.prog 25 #[.pointer (some ⟨d, 0, none⟩)] w fun e w' => ∃ v, e = .returned v ∧ OwnBytes w' w.heap.size v s.B ∧ One Di (fun k => X k ∨ v.ownBlock = some k) w' d s ∧ Kept (fun _ => False) w w' := by
  obtain ⟨F, G, h1, h2⟩ := h
  have a1 := C.arms h1
  refine (C.imageB w d F G s h1).mono ?_
  rintro e w' ⟨v, rfl, ho, hd, hk⟩
  refine ⟨v, rfl, ho, ⟨F, G, hd, fun k e => ?_⟩, hk⟩
  rcases e with e | e
  · exact ⟨(h2 k e).1, Nat.lt_of_lt_of_le (h2 k e).2 hk.size⟩
  · have e5 := World.ownsRow.lt ho k e
    exact ⟨fun f => by have := a1.2.2 k f; omega, e5.2⟩
/-- A disk that was just crashed is alive, and nothing waits. -/
theorem crash_live {s : Sk} (h : s.Fine) (keep : List Bool) : (s.crashS keep).dead = false ∧ (s.crashS keep).stop = none ∧ (s.crashS keep).W = [] ∧ (s.crashS keep).B.length = s.B.length ∧ (s.crashS keep).reads = s.reads ∧ (s.crashS keep).writes = s.writes ∧ (s.crashS keep).flushes = s.flushes := ⟨rfl, rfl, rfl, (crashS_len h keep).1, rfl, rfl, rfl⟩
theorem live_arm {s : Sk} (hd : s.dead = false) (hs : s.stop = none) : s.arm = s := by unfold Sk.arm; rw [hs]; rfl
theorem live_write {s : Sk} (hd : s.dead = false) (hs : s.stop = none) {k : Nat} (hk : k * 128 + 128 ≤ s.B.length) {l : List Nat} (hl : l.length = 128) : s.writeR (k : Int) l = 0 ∧ s.writeS (k : Int) l = { s with W := s.W ++ [(k, l)], writes := s.writes + 1 } := by
  have hf : s.fits (k : Int) := ⟨by omega, by omega⟩
  have hno : ¬ (¬ s.fits (k : Int) ∨ l.length ≠ 128) := fun e => by rcases e with e | e; exact e hf; exact e hl
  unfold Sk.writeR Sk.writeS
  rw [if_neg hno, if_neg hno, live_arm hd hs]
  refine ⟨if_neg (by rw [hd]; decide), (if_neg (by rw [hd]; decide)).trans ?_⟩
  have e : s.stop.map (· - 1) = s.stop := by rw [hs]; rfl
  rw [e, Int.toNat_natCast]
theorem live_read {s : Sk} (hd : s.dead = false) {k : Nat} (hk : k * 128 + 128 ≤ s.B.length) : (s.now k, (0 : Int)) = s.readR (k : Int) ∧ s.readS (k : Int) = { s with reads := s.reads + 1 } := by
  have hf : s.fits (k : Int) := ⟨by omega, by omega⟩
  unfold Sk.readR Sk.readS
  refine ⟨?_, if_pos ⟨hf, hd⟩⟩
  rw [if_neg (fun x => x hf), if_neg (by rw [hd]; decide), Int.toNat_natCast]
theorem live_flush {s : Sk} (hd : s.dead = false) (hs : s.stop = none) : s.flushR = 0 := by unfold Sk.flushR; rw [live_arm hd hs, hd]; rfl

/-- A row of one byte that was just built. -/
theorem lit_one (w : World) (c : Nat) : Bs (w.alloc (.cells #[.int .u8 (c : Int)] 5)) (some ⟨w.heap.size, 0, none⟩) 1 [c] := by
  refine Bs.own (base := w.heap.size) ?_
  exact own_new w w.heap.size #[.int .u8 (c : Int)] 1 [c] rfl rfl (by decide) (Nat.le_refl _)
/-- A sector that begins with some bytes. -/
def fullL (l : List Nat) : List Nat := over l (List.replicate 128 0)
theorem length_fullL (l : List Nat) : (fullL l).length = 128 := by unfold fullL; rw [length_over, List.length_replicate]
theorem fullL_lt {l : List Nat} (h : ∀ x ∈ l, x < 256) : ∀ x ∈ fullL l, x < 256 := by
  intro x hx
  unfold fullL over at hx
  rcases List.mem_append.1 hx with h5 | h5
  · exact h x (List.mem_of_mem_take h5)
  · have := (List.mem_replicate.1 (List.mem_of_mem_drop h5)).2; omega
theorem fullL_one (c : Nat) : (fullL [c])[0]? = some c := by
  unfold fullL over
  rw [List.length_replicate]
  rfl
/-- 'full' beside a disk. -/
theorem one_full {Di : DiP} (C : Dsk Di) {X : Nat → Prop} {w : World} {d : Nat} {s : Sk} (h : One Di X w d s) (a : Option Addr) (n cap : Nat) (l : List Nat) (hn : l.length = n) (hb : Bs w a cap l) :
    Calls Try.prog 13 #[.slice a n cap] w fun e w' => ∃ g, e = .returned (.slice (some ⟨g, 0, none⟩) 128 128) ∧ Bs w' (some ⟨g, 0, none⟩) 128 (fullL l) ∧ w'.ownsRow w.heap.size 5 1 (.slice (some ⟨g, 0, none⟩) 128 128) 128 (u8s (fullL l)) ∧ One Di (fun k => X k ∨ k = g) w' d s ∧ Below w.heap.size w w' ∧ w.heap.size ≤ g ∧ g < w'.heap.size := by
  refine (full_any w a n cap l hn hb (fullL l) rfl).mono ?_
  rintro e w' ⟨g, rfl, ho, hbl⟩
  have hg := World.ownsRow.lt ho g rfl
  refine ⟨g, rfl, ?_, ho, h.keep C (Kept.of_below hbl) (fun k e => ?_), hbl, hg.1, hg.2⟩
  · refine Bs.own (base := w.heap.size) ?_
    show World.ownsRow _ _ _ _ (.slice _ (fullL l).length _) (fullL l).length _
    rw [length_fullL]
    exact ho
  · rcases e with e | e
    · exact .inl e
    · exact .inr (by rw [e]; exact hg)

end Go.Proofs.Ytjmeneddhalodaa

/- Arrays of bytes that are variables of a law; disks that live. -/
namespace Go.Proofs.Ytjmeneddhalodaa
set_option linter.unusedVariables false
set_option linter.unusedSimpArgs false
open Go.RowKit Dg

/-- A variable '[n]byte' in block g. -/
def ArrIs (t : TypeId) (w : World) (g : Nat) (l : List Nat) : Prop := w.heap[g]? = some (.cells (u8s l).toArray t (0, 0))
theorem ArrIs.lt {t : TypeId} {w : World} {g : Nat} {l : List Nat} (h : ArrIs t w g l) : g < w.heap.size := by
  have h' : w.heap[g]? = some (.cells (u8s l).toArray t (0, 0)) := h
  exact (Array.getElem?_eq_some_iff.1 h').1
theorem ArrIs.cell {t : TypeId} {w : World} {g k x : Nat} {l : List Nat} (h : ArrIs t w g l) (hx : l[k]? = some x) : w.cell? ⟨g, k, none⟩ = some (.int .u8 (x : Int)) ∧ w.frozen? ⟨g, k, none⟩ = false := by
  have h' : w.heap[g]? = some (.cells (u8s l).toArray t (0, 0)) := h
  have e : (u8s l)[k]? = some (.int .u8 (x : Int)) := by rw [u8s_get, hx]; rfl
  exact ⟨by simp [World.cell?, h']; simpa using e, by simp [World.frozen?, h']⟩
theorem ArrIs.set {t : TypeId} {w : World} {g : Nat} {l : List Nat} (h : ArrIs t w g l) (k y : Nat) : ArrIs t (w.setCell ⟨g, k, none⟩ (.int .u8 (y : Int))) g (l.set k y) := by
  have h' : w.heap[g]? = some (.cells (u8s l).toArray t (0, 0)) := h
  show _ = _
  rw [heap_setCell_of h']
  have e : u8s (l.set k y) = (u8s l).set k (.int .u8 (y : Int)) := by simp [u8s]
  rw [e]
  simp
theorem ArrIs.kept {t : TypeId} {w w' : World} {g : Nat} {l : List Nat} {F : Nat → Prop} (h : ArrIs t w g l) (hk : Kept F w w') (hF : ¬ F g) : ArrIs t w' g l := by
  show _ = _
  rw [hk.block g h.lt hF]
  exact h
theorem ArrIs.range {t : TypeId} {w : World} {g : Nat} {l : List Nat} (h : ArrIs t w g l) : w.rangeAt g 0 (u8s l) := fun j v e => by
  have h' : w.heap[g]? = some (.cells (u8s l).toArray t (0, 0)) := h
  simp [World.cell?, h']
  simpa using e
/-- 'a = b' of two such variables: the load. -/
theorem wpList_load_arr {P : Program} {ops : Array Oper} {rest : List Oper} {o : Oper} {a : Act} {w : World} {Q : Exit → Act → World → Prop} (hg : o.guard = none) (t : TypeId) (x : Operand) (ho : o.op = .load t x) (g : Nat) (hx : a.eval x = .pointer (some ⟨g, 0, none⟩)) (l : List Nat) (h : ArrIs t w g l)
    (d : TypeDesc) (hu : P.underlying t = some d) (hd : d.isRow = true) (n : Nat) (hl : l.length = n) (hi : (P.info? t).map (·.size) = some n) (C : Array Value) (hC : C = (u8s l).toArray) (hK : wpList P ops Q rest (a.put o.dst (.agg C)) w) : wpList P ops Q (o :: rest) a w := by
  subst hC
  exact wpList_load_mid hg t x ho g 0 hx (u8s l) d h.range hu hd (by rw [hi]; simp [hl]) hK
/-- And the store. -/
theorem wpList_store_arr {P : Program} {ops : Array Oper} {rest : List Oper} {o : Oper} {a : Act} {w : World} {Q : Exit → Act → World → Prop} (hg : o.guard = none) (t : TypeId) (x y : Operand) (ho : o.op = .store t x y) (g : Nat) (C : Array Value) (hx : a.eval x = .pointer (some ⟨g, 0, none⟩)) (hy : a.eval y = .agg C)
    (l l0 : List Nat) (hC : C = (u8s l).toArray) (h0 : w.heap[g]? = some (.cells (u8s l0).toArray t (0, 0))) (n : Nat) (hl : l.length = n) (hl0 : l0.length = n) (hi : (P.info? t).map (·.size) = some n)
    (h : ∀ w', Hid (ArrIs t w' g l) → Hid (Kept (fun k => k = g) w w') → wpList P ops Q rest (a.put o.dst undef) w') : wpList P ops Q (o :: rest) a w := by
  subst hC
  refine wpList_store_row hg t x y ho g (u8s l).toArray hx hy t (u8s l0).toArray h0 (by rw [hi]; simp [hl]) (by simp [hl, hl0]) (Array.all_eq_true_iff_forall_mem.2 (fun v hv => ?_)) (h _ (setRow_heap w g _ _ _ _ h0) (Kept.setRow _ _ _))
  have hv' : v ∈ u8s l := by simpa using hv
  obtain ⟨z, -, rfl⟩ := List.mem_map.1 hv'
  rfl

/-- A disk of n sectors that lives, used at most c times. -/
structure Live (s : Sk) (n c : Nat) : Prop where
  fine : s.Fine
  dead : s.dead = false
  stop : s.stop = none
  bl : s.B.length = n * 128
  rd : s.reads ≤ c
  wr : s.writes ≤ c
  fl : s.flushes ≤ c
  wl : s.W.length ≤ c
theorem Live.up {s : Sk} {n c c' : Nat} (h : Live s n c) (hc : c ≤ c') : Live s n c' := { h with rd := Nat.le_trans h.rd hc, wr := Nat.le_trans h.wr hc, fl := Nat.le_trans h.fl hc, wl := Nat.le_trans h.wl hc }
theorem Live.first {n : Nat} (h1 : 1 ≤ n) (h2 : n ≤ 4096) : Live (newS n) n 0 := ⟨newS_fine h1 h2, rfl, rfl, by show (List.replicate (n * 128) 0).length = _; rw [List.length_replicate], Nat.le_refl _, Nat.le_refl _, Nat.le_refl _, Nat.le_refl _⟩
theorem lastW_push (W : List (Nat × List Nat)) (k : Nat) (b : List Nat) (j : Nat) : lastW (W ++ [(k, b)]) j (W ++ [(k, b)]).length = if k = j then some b else lastW W j W.length := by
  have e : (W ++ [(k, b)]).length = W.length + 1 := by simp
  rw [e, ← lastK_all, lastK_push, ← lastK_all]
  simp
theorem Live.write {s : Sk} {n c : Nat} (h : Live s n c) {k : Nat} (hk : k < n) {b : List Nat} (hb : b.length = 128) (h256 : ∀ x ∈ b, x < 256) : (0 : Int) = s.writeR (k : Int) b ∧ Live (s.writeS (k : Int) b) n (c + 1) ∧ (s.writeS (k : Int) b).B = s.B ∧ (s.writeS (k : Int) b).W = s.W ++ [(k, b)] ∧ ∀ j, (s.writeS (k : Int) b).now j = if k = j then b else s.now j := by
  obtain ⟨a1, a2⟩ := live_write h.dead h.stop (k := k) (by rw [h.bl]; omega) hb
  have hf := Sk.writeS_fine h.fine (k : Int) b h256
  rw [a2] at hf
  rw [a2]
  refine ⟨a1.symm, ⟨hf, h.dead, h.stop, h.bl, Nat.le_succ_of_le h.rd, Nat.add_le_add_right h.wr 1, Nat.le_succ_of_le h.fl, by show (s.W ++ [(k, b)]).length ≤ _; rw [List.length_append]; exact Nat.add_le_add_right h.wl 1⟩, rfl, rfl, fun j => ?_⟩
  show (lastW (s.W ++ [(k, b)]) j (s.W ++ [(k, b)]).length).getD (sec s.B j) = _
  rw [lastW_push]
  split
  · rfl
  · rfl
theorem Live.read {s : Sk} {n c : Nat} (h : Live s n c) {k : Nat} (hk : k < n) : (s.now k, (0 : Int)) = s.readR (k : Int) ∧ Live (s.readS (k : Int)) n (c + 1) ∧ (s.readS (k : Int)).B = s.B ∧ (s.readS (k : Int)).W = s.W := by
  obtain ⟨a1, a2⟩ := live_read h.dead (k := k) (by rw [h.bl]; omega)
  rw [a2]
  exact ⟨a1, ⟨⟨h.fine.n, h.fine.b256, h.fine.w⟩, h.dead, h.stop, h.bl, Nat.add_le_add_right h.rd 1, Nat.le_succ_of_le h.wr, Nat.le_succ_of_le h.fl, Nat.le_succ_of_le h.wl⟩, rfl, rfl⟩
theorem now_same {s t : Sk} (hB : s.B = t.B) (hW : s.W = t.W) (k : Nat) : s.now k = t.now k := by unfold Sk.now; rw [hB, hW]
theorem Live.flush {s : Sk} {n c : Nat} (h : Live s n c) : (0 : Int) = s.flushR ∧ Live s.flushS n (c + 1) ∧ s.flushS.W = [] ∧ ∀ k, k < n → s.flushS.now k = s.now k := by
  have ha := live_arm h.dead h.stop
  have hf := Sk.flushS_fine h.fine
  have e : s.flushS = { s with B := keepTo s.B s.W (fun _ => true) s.W.length, W := [], flushes := s.flushes + 1 } := by
    unfold Sk.flushS
    rw [ha, if_neg (by rw [h.dead]; decide)]
  have hn : ∀ k, k < n → s.flushS.now k = s.now k := fun k hk => now_flush h.fine (by rw [ha]; exact h.dead) k (by rw [h.bl]; omega)
  refine ⟨(live_flush h.dead h.stop).symm, ?_, by rw [e], hn⟩
  rw [e] at hf ⊢
  exact ⟨hf, h.dead, h.stop, ((keepTo_fine h.fine (fun _ => true) _ (Nat.le_refl _)).1).trans h.bl, Nat.le_succ_of_le h.rd, Nat.le_succ_of_le h.wr, Nat.add_le_add_right h.fl 1, Nat.zero_le _⟩
theorem Live.crash {s : Sk} {n c : Nat} (h : Live s n c) (keep : List Bool) : Live (s.crashS keep) n c ∧ (s.crashS keep).W = [] := by
  obtain ⟨c1, c2, c3, c4, c5, c6, c7⟩ := crash_live h.fine keep
  exact ⟨⟨Sk.crashS_fine h.fine keep, c1, c2, c4.trans h.bl, by rw [c5]; exact h.rd, by rw [c6]; exact h.wr, by rw [c7]; exact h.fl, by rw [c3]; exact Nat.zero_le _⟩, c3⟩
/-- The first byte of a sector that is kept. -/
theorem sec_head {B : List Nat} {k x : Nat} (h : (sec B k)[0]? = some x) : B[k * 128]? = some x := by
  unfold sec at h
  rw [List.getElem?_take, if_pos (by decide), List.getElem?_drop, Nat.add_zero] at h
  exact h
theorem newS_now (n k : Nat) (hk : k < n) : ((newS n).now k)[0]? = some 0 := by
  show (sec (List.replicate (n * 128) 0) k)[0]? = _
  unfold sec
  rw [List.getElem?_take, if_pos (by decide), List.getElem?_drop, List.getElem?_replicate, if_pos (by omega)]

end Go.Proofs.Ytjmeneddhalodaa

/- Numbers in a row that can be read; rows of numbers of the call's own; Copy and Cut of numbers. -/
namespace Go.Proofs.Ytjmeneddhalodaa
set_option linter.unusedVariables false
set_option linter.unusedSimpArgs false
open Go.RowKit Dg

/-- Numbers that can be read. -/
def IntsAt (w : World) (a : Option Addr) (l : List Int) : Prop :=
  ∀ j x, l[j]? = some x → ∃ b off, a = some ⟨b, off, none⟩ ∧ w.cell? ⟨b, off + j, none⟩ = some (.int .i64 x)
theorem IntsAt.below {w w' : World} {a : Option Addr} {l : List Int} {B : Nat} (h : IntsAt w a l) (hb : Below B w w') (hB : ∀ x, a = some x → x.block < B) : IntsAt w' a l := by
  intro j x hx
  obtain ⟨b, off, rfl, hc⟩ := h j x hx
  refine ⟨b, off, rfl, ?_⟩
  rw [hb.cell (p := ⟨b, off + j, none⟩) (hB ⟨b, off, none⟩ rfl)]
  exact hc
theorem IntsAt.kept {w w' : World} {a : Option Addr} {l : List Int} {F : Nat → Prop} (h : IntsAt w a l) (hk : Kept F w w') (hF : ∀ x, a = some x → ¬ F x.block) : IntsAt w' a l := by
  intro j x hx
  obtain ⟨b, off, rfl, hc⟩ := h j x hx
  refine ⟨b, off, rfl, ?_⟩
  rw [hk.cell (World.block_lt_of_cell? w _ hc) (hF ⟨b, off, none⟩ rfl)]
  exact hc
theorem IntsAt.take {w : World} {a : Option Addr} {l : List Int} (h : IntsAt w a l) (n : Nat) : IntsAt w a (l.take n) := by
  intro j x hx
  refine h j x ?_
  rw [List.getElem?_take] at hx
  split at hx
  · exact hx
  · cases hx
theorem IntsAt.nil (w : World) (a : Option Addr) : IntsAt w a [] := fun j x hx => by simp at hx
/-- Numbers as values. -/
def i64s (l : List Int) : List Value := l.map fun x : Int => Value.int .i64 x
@[simp] theorem length_i64s (l : List Int) : (i64s l).length = l.length := by simp [i64s]
theorem i64s_get (l : List Int) (k : Nat) : (i64s l)[k]? = l[k]?.map fun x : Int => Value.int .i64 x := by simp [i64s]
theorem IntsAt.of_owns {w : World} {base : Nat} {a : Option Addr} {n m cap : Nat} {l : List Int} (h : w.ownsRow base 3 1 (.slice a m cap) n (i64s l)) : IntsAt w a l := by
  have hl : l.length = n := by have := h.1; simpa using this
  rcases h.2 with ⟨e, rfl⟩ | ⟨g, cap, cur, e, hb, hh, hn, _, hcs, htake⟩
  · have : l = [] := List.eq_nil_of_length_eq_zero hl
    subst this
    exact IntsAt.nil w a
  · cases e
    intro j x hx
    refine ⟨g, 0, rfl, ?_⟩
    have hj : j < l.length := (List.getElem?_eq_some_iff.1 hx).1
    have e : (i64s l)[j]? = some (.int .i64 x) := by rw [i64s_get, hx]; rfl
    rw [← htake, List.getElem?_take, if_pos (by omega)] at e
    simp only [World.cell?, hh]
    simpa using e
/-- The numbers of a slice that came in. -/
theorem IsRow.ints {w : World} {a : Option Addr} {len cap : Nat} {zs : List Int} (h : IsRow .i64 w a len cap zs) :
    ∃ l : List Int, l.length = len ∧ (∀ x ∈ l, I64 x) ∧ IntsAt w a l ∧ len ≤ cap ∧ cap ≤ maxLen ∧ (a = none → len = 0 ∧ cap = 0) ∧ ∀ x, a = some x → 0 < len → x.block < w.heap.size := by
  rcases h with ⟨rfl, rfl, rfl, rfl⟩ | ⟨x, rfl, hle, hm, hz, hc, hwf⟩
  · exact ⟨[], rfl, fun x hx => by simp at hx, IntsAt.nil w _, Nat.le_refl _, by decide, fun _ => ⟨rfl, rfl⟩, fun x hx => by cases hx⟩
  · have hsp : 0 < zs.length → x.spot = none := fun h0 => by
      have := spot_of_cell (hc 0 h0)
      simpa [Addr.add] using this
    refine ⟨zs.take len, by simp; omega, fun y hy => wf_i64 (hwf y (List.mem_of_mem_take hy)), ?_, hle, hm, (fun e => by cases e), ?_⟩
    · intro j y hy
      have hj : j < (zs.take len).length := (List.getElem?_eq_some_iff.1 hy).1
      simp at hj
      have hj2 : j < zs.length := by omega
      obtain ⟨b, off, s⟩ := x
      have hs := hsp (by omega)
      simp at hs
      subst hs
      refine ⟨b, off, rfl, ?_⟩
      have hcell := hc j hj2
      have hadd : (⟨b, off, none⟩ : Addr).add j = ⟨b, off + j, none⟩ := by simp [Addr.add]
      rw [hadd] at hcell
      rw [hcell]
      rw [List.getElem?_take, if_pos (by omega)] at hy
      simp [List.getD, hy]
    · intro y hy h0
      cases hy
      have hcell := hc 0 (by omega)
      exact World.block_lt_of_cell? w _ hcell
theorem Try.info3 : (Try.prog.info? 3).map (fun i => (i.zero, i.size, i.bytes)) = some (some (.int .i64 0), 1, 8) := by kernel_rfl
/-- A row of numbers of the call's own. -/
def OwnInts (w : World) (base : Nat) (v : Value) (l : List Int) : Prop := w.ownsRow base 3 1 v l.length (i64s l)
theorem OwnInts.nil (w : World) (base : Nat) : OwnInts w base (.slice none 0 0) [] := World.ownsRow_nil _ _ _ _
theorem OwnInts.slice {w : World} {base : Nat} {v : Value} {l : List Int} (h : OwnInts w base v l) : ∃ a cap, v = .slice a l.length cap ∧ IntsAt w a l ∧ (a = none ∧ l = [] ∧ cap = 0 ∨ ∃ g, a = some ⟨g, 0, none⟩ ∧ base ≤ g ∧ g < w.heap.size) := by
  have h' := h
  rcases h.2 with ⟨rfl, hn⟩ | ⟨g, cap, cur, rfl, hb, hh, hn, _, hcs, htake⟩
  · have : l = [] := List.eq_nil_of_length_eq_zero hn
    subst this
    exact ⟨none, 0, rfl, IntsAt.nil w _, .inl ⟨rfl, rfl, rfl⟩⟩
  · exact ⟨some ⟨g, 0, none⟩, cap, rfl, IntsAt.of_owns h, .inr ⟨g, rfl, hb, (Array.getElem?_eq_some_iff.1 hh).1⟩⟩
theorem OwnInts.below {w w' : World} {base B : Nat} {v : Value} {l : List Int} (h : OwnInts w base v l) (hb : Below B w w') (hB : ∀ k, v.ownBlock = some k → k < B) : OwnInts w' base v l := by
  refine ⟨h.1, ?_⟩
  rcases h.2 with hn | ⟨g, cap, cur, rfl, hg, hh, r⟩
  · exact .inl hn
  · exact .inr ⟨g, cap, cur, rfl, hg, by rw [hb.block g (hB g rfl)]; exact hh, r⟩
/-- 'append(z, n)' of one number that was just built. -/
theorem wpList_append_int {P : Program} (w0 : World) {ops : Array Oper} {rest : List Oper} {o : Oper} {a : Act} {Q : Exit → Act → World → Prop}
    (hgd : o.guard = none) (s x : Operand) (t : TypeId) (ho : o.op = .call { callee := .builtin .append, args := #[s, x], argTypes := #[t, t] })
    (base : Nat) (i : TypeInfo) (ht : P.underlying t = some (.slice 3)) (hi : P.info? 3 = some i) (hz : i.zero = some (.int .i64 0)) (hsize : i.size = 1) (hby : i.bytes = 8)
    (v : Value) (l : List Int) (hs : a.eval s = v) (hown : OwnInts w0 base v l) (y : Int) (hx : a.eval x = .slice (some ⟨w0.heap.size, 0, none⟩) 1 1)
    (hl : l.length ≤ 1000000) (hbase : base ≤ w0.heap.size)
    (h : ∀ v' w', Hid (OwnInts w' base v' (l ++ [y])) → Hid (Below base w0 w') → wpList P ops Q rest (a.put o.dst v') w') : wpList P ops Q (o :: rest) a (w0.alloc (.cells #[.int .i64 y] 3)) := by
  refine wpList_append_mine _ hgd s x t ho base 3 i (.int .i64 0) 1 8 ht hi hz hsize hby rfl (by decide) v l.length (i64s l) hs (World.ownsRow.alloc hown _) ⟨w0.heap.size, 0, none⟩ 1 1 [.int .i64 y] hx rfl ?c1 ?c2 (by decide) ?b1 ?b2 ?b3 ?_
  case c1 => intro j u hj; match j, hj with | 0, hj => simp at hj; subst hj; simp [Addr.add]
  case c2 => intro u hu; simp at hu; subst hu; rfl
  case b1 => unfold maxLen; omega
  case b2 => omega
  case b3 => simp; omega
  intro g cap w' H1 HG HN
  refine h _ w' ?_ ?_
  · show World.ownsRow _ _ _ _ _ _ _
    have := H1.out
    simpa [i64s] using this
  · exact ((Below.refl base w0).alloc hbase _).grown HG.out (by simp; omega) (fun k hk => (World.ownsRow.lt hown k hk).1)
end Go.Proofs.Ytjmeneddhalodaa
