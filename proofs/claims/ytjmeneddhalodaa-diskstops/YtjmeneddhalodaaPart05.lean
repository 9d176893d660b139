/- The texts BytesC, Spoils, DkC, DkW, DkTwo, DkPlay, one behind the other. -/
import Derived.Test.YtjmeneddhalodaaPart02
import Derived.Laws.BytesArg
import Derived.Lib.SliceRun
import Derived.Test.YtjmeneddhalodaaPart04
import Derived.Deep.CutRange
import Derived.Deep.RegionWith

/- bytes.Equal, bytes.Clone. -/
namespace Go.Proofs.Ytjmeneddhalodaa
set_option linter.unusedVariables false
set_option linter.unusedSimpArgs false
open Go.RowKit Dg

theorem Below.kept0 {w w' : World} (hb : Below w.heap.size w w') : Kept (fun i => w.heap.size ≤ i) w w' := ⟨hb.os, hb.tape, hb.output, hb.size, fun i _ hf => hb.block i (by omega)⟩

/-- The string of some bytes. -/
def strB (l : List Nat) : ByteArray := strOfNums (l.map fun n : Nat => (n : Int))
theorem conv_bytes (w : World) (a : Option Addr) (n c : Nat) (l : List Nat) (hn : l.length = n) (h0 : 0 < n) (h : SlAt w (.slice a n c) l) :
    (convert 30 9 (.slice a n c)).run Try.prog w = .ok (.string (strB l)) w := by
  subst hn
  obtain ⟨ao, cp, hv, hc⟩ := h
  cases hv
  obtain ⟨b, off, rfl, -⟩ := hc 0 (l[0]'h0) (by rw [List.getElem?_eq_getElem])
  unfold strB
  refine run_convert_bytes_arg (P := Try.prog) w 30 5 Try.underlying30 Try.underlying5 b off _ _ (l.map fun n : Nat => (n : Int)) (List.length_map ..) (fun i hi => ?_) 9 Try.underlying9
  obtain ⟨b', off', e, hcell⟩ := hc i (l[i]'hi) (by rw [List.getElem?_eq_getElem])
  cases e
  rw [hcell]
  simp [List.getD, List.getElem?_eq_getElem hi]
theorem strB_eq {l1 l2 : List Nat} (h1 : ∀ x ∈ l1, x < 256) (h2 : ∀ x ∈ l2, x < 256) : (strB l1).data.toList = (strB l2).data.toList ↔ l1 = l2 := by
  refine ⟨fun h => ?_, fun h => by rw [h]⟩
  unfold strB at h
  rw [strOfNums_data, strOfNums_data, List.map_map, List.map_map] at h
  have key : ∀ l : List Nat, (∀ x ∈ l, x < 256) → (l.map ((fun n : Int => UInt8.ofNat n.toNat) ∘ fun n : Nat => (n : Int))).map UInt8.toNat = l := by
    intro l hl
    rw [List.map_map]
    conv => rhs; rw [← List.map_id l]
    refine List.map_congr_left (fun x hx => ?_)
    have := hl x hx
    simp [UInt8.toNat_ofNat]
    omega
  have h3 := congrArg (List.map UInt8.toNat) h
  rwa [key l1 h1, key l2 h2] at h3
set_option maxHeartbeats 1000000 in
set_option maxRecDepth 100000 in
/-- 'bytes.Clone' of a row that is not empty. -/
theorem bclone_any (w : World) (a : Option Addr) (n c : Nat) (l : List Nat) (hn : l.length = n) (h0 : 0 < n) (hl : n ≤ 1000000) (hc : n ≤ c) (h : SlAt w (.slice a n c) l) :
    Calls Try.prog 39 #[.slice a n c] w fun e w' => ∃ v, e = .returned v ∧ OwnBytes w' w.heap.size v l ∧ Below w.heap.size w w' := by
  subst hn
  obtain ⟨y, rfl⟩ : ∃ y, a = some y := by
    obtain ⟨ao, cp, hv, hcl⟩ := h
    cases hv
    obtain ⟨b, off, rfl, -⟩ := hcl 0 (l[0]'(by omega)) (by rw [List.getElem?_eq_getElem])
    exact ⟨_, rfl⟩
  have HBS : Hid (Bs w (some y) c l) := ⟨h, hc, fun e => by cases e⟩
  have qT : ∀ (w : World) (a : Option Addr) (n c n' c' : Nat), (binOp .eql 30 (.slice a n c) (.slice none n' c')).run Try.prog w = .ok (.bool a.isNone) w := fun w a n c n' c' => Lib.run_eql_slice_nil w _ _ a n c n' c' Try.underlying30
  have HB0 : Hid (Below w.heap.size w (w.alloc (.cells #[] 5))) := (Below.refl _ _).alloc (Nat.le_refl _) _
  have HO : Hid (OwnBytes (w.alloc (.cells #[] 5)) w.heap.size (.slice (some ⟨w.heap.size, 0, none⟩) 0 0) []) := own_new w w.heap.size #[] 0 [] rfl rfl (by decide) (Nat.le_refl _)
  clear h
  go_enter Try.func39, Try.ntmps39
  go_wp2_with (at_builtin; go_must (refine wpList_append_bytes _ rfl (.tmp 5) (.tmp 6) rfl w.heap.size _ [] rfl HO.out (some y) c l rfl (HBS.out.below HB0.out) (by simp; omega) HB0.out.size ?_))
  intro v2 w2 ho2 hk2 hv2
  have HO2 : Hid (OwnBytes w2 w.heap.size v2 l) := ho2.out
  have HB2 : Hid (Below w.heap.size w w2) := hk2.out.below_of HB0.out (fun k hf => by simp [Value.ownBlock] at hf; omega) HB0.out.size
  clear ho2 hk2 hv2
  go_wp2_with fail
  go_ret
  exact ⟨_, rfl, HO2.out, HB2.out⟩

end Go.Proofs.Ytjmeneddhalodaa

/- Rows of bytes of which all cells are known, their room too: appends that make them, Spoil. -/
namespace Go.Proofs.Ytjmeneddhalodaa
set_option linter.unusedVariables false
set_option linter.unusedSimpArgs false
open Go.RowKit Dg

/-- A new row of bytes, or nil; behind its bytes its room has bytes, too. -/
def WholeB (w : World) (base : Nat) (v : Value) (l : List Nat) : Prop :=
  (v = .slice none 0 0 ∧ l = []) ∨ ∃ (g : Nat) (X : List Nat), v = .slice (some ⟨g, 0, none⟩) l.length X.length ∧ base ≤ g ∧ RowIs w g (u8s X) ∧ X.take l.length = l ∧ l.length ≤ X.length ∧ X.length ≤ maxLen
theorem WholeB.nil (w : World) (base : Nat) : WholeB w base (.slice none 0 0) [] := .inl ⟨rfl, rfl⟩
theorem WholeB.own {w : World} {base : Nat} {v : Value} {l : List Nat} (h : WholeB w base v l) : OwnBytes w base v l := by
  rcases h with ⟨rfl, rfl⟩ | ⟨g, X, rfl, hb, hr, ht, hl, hm⟩
  · exact World.ownsRow_nil _ _ _ _
  · have hr' : w.heap[g]? = some (.cells (u8s X).toArray 5 (0, 0)) := hr
    refine ⟨by simp, .inr ⟨g, X.length, (u8s X).toArray, rfl, hb, hr', hl, hm, by simp, ?_⟩⟩
    have e : (u8s X).take (l.length * 1) = u8s (X.take l.length) := by simp [u8s]
    rw [List.toList_toArray, e, ht]
theorem WholeB.kept {w w' : World} {base : Nat} {v : Value} {l : List Nat} {F : Nat → Prop} (h : WholeB w base v l) (hk : Kept F w w') (hF : ∀ k, v.ownBlock = some k → ¬ F k) : WholeB w' base v l := by
  rcases h with h | ⟨g, X, rfl, hb, hr, r⟩
  · exact .inl h
  · have hr' : w.heap[g]? = some (.cells (u8s X).toArray 5 (0, 0)) := hr
    exact .inr ⟨g, X, rfl, hb, by show w'.heap[g]? = _; rw [hk.block g (Array.getElem?_eq_some_iff.1 hr').1 (hF g rfl)]; exact hr', r⟩
theorem WholeB.base {w : World} {base base' : Nat} {v : Value} {l : List Nat} (h : WholeB w base v l) (hb : base' ≤ base) : WholeB w base' v l := by
  rcases h with h | ⟨g, X, e, hg, r⟩
  · exact .inl h
  · exact .inr ⟨g, X, e, Nat.le_trans hb hg, r⟩
set_option maxRecDepth 100000 in
set_option maxHeartbeats 1000000 in
theorem spoil_row (w : World) (g n len : Nat) (X : List Value) (hrow : RowIs w g X) (hX : ∀ u ∈ X, ∃ x : Int, u = .int .u8 x) (HN : Hid (X.length = n)) (hsm : n ≤ 9223372036854775807) (hlen : len ≤ n) :
    Calls Try.prog 33 #[.slice (some ⟨g, 0, none⟩) len n] w fun e w' => e = .returned (.tuple #[]) ∧ Kept (fun k => k = g) w w' := by
  have HR : Hid (RowIs w g X) := hrow
  have HX : Hid (∀ u ∈ X, ∃ x : Int, u = .int .u8 x) := hX
  have hsl := slice_hi (some ⟨g, 0, none⟩) len n n (Nat.le_refl _)
  clear hrow hX
  go_enter Try.func33, Try.ntmps33
  go_wp2
  go_loopw [10] (fun i wr => ∃ (j : Nat) (Y : List Value), j ≤ n ∧ i = .int .i64 j ∧ Hid (RowIs wr g Y) ∧ Hid (Y.length = n) ∧ Hid (∀ u ∈ Y, ∃ x : Int, u = .int .u8 x) ∧ Hid (Kept (fun k => k = g) w wr)) (fun i _ => n - (intOf i).toNat)
  case atStart => exact ⟨0, X, Nat.zero_le _, rfl, HR.out, HN.out, HX.out, Kept.refl _ _⟩
  case round =>
    obtain ⟨j, Y, hj, rfl, hrow, hYl, hY, hk⟩ := hrel
    by_cases hjn : j < n
    · obtain ⟨u, hu⟩ : ∃ u, Y[j]? = some u := by have := hYl.out; exact ⟨Y[j]'(by omega), by simp [this, hjn]⟩
      obtain ⟨x, hx⟩ := hY.out u (List.mem_of_getElem? hu)
      subst hx
      have hcell := hrow.out.cell hu
      have hfz := hrow.out.frozen j
      clear hu
      go_wp2
      go_roundw
      case rel =>
        refine ⟨j + 1, Y.set j _, by omega, by go_num, hrow.out.set _ _, ?_, ?_, hk.out.trans (Kept.setCell _ _ _ rfl)⟩
        · show _ = _
          simpa using hYl.out
        · intro u hu
          rcases List.mem_or_eq_of_mem_set hu with h | h
          · exact hY.out u h
          · exact ⟨_, h⟩
      case measure => simp [intOf]; omega
    · go_wp2
      go_end0
      exact ⟨rfl, hk.out⟩

/-- 'append([]byte(nil), x...)' of some bytes, the whole row told. -/
theorem wpList_append_whole (w : World) {ops : Array Oper} {rest : List Oper} {o : Oper} {a : Act} {Q : Exit → Act → World → Prop}
    (hgd : o.guard = none) (s x : Operand) (ho : o.op = .call { callee := .builtin .append, args := #[s, x], argTypes := #[30, 30] })
    (hs : a.eval s = .slice none 0 0) (xa : Option Addr) (xc n : Nat) (m : List Nat) (hn : m.length = n) (hx : a.eval x = .slice xa n xc) (hm : Bs w xa xc m) (h0 : 0 < n) (hl : n ≤ 1000000)
    (h : ∀ g c w', Hid (WholeB w' w.heap.size (.slice (some ⟨g, 0, none⟩) n c) m) → Hid (Kept (fun _ => False) w w') → wpList Try.prog ops Q rest (a.put o.dst (.slice (some ⟨g, 0, none⟩) n c)) w') : wpList Try.prog ops Q (o :: rest) a w := by
  subst hn
  obtain ⟨i0, hi, hz0, hz1, hz2⟩ := info_parts Try.info5
  obtain ⟨b, off, rfl, -⟩ := sl_cell hm.at_ (List.getElem?_eq_getElem h0)
  have hcell : ∀ j u, (u8s m)[j]? = some u → w.cell? ((⟨b, off, none⟩ : Addr).add j) = some u := by
    intro j u hu
    rw [u8s_get] at hu
    obtain ⟨y, hy, rfl⟩ := Option.map_eq_some_iff.1 hu
    obtain ⟨b', off', e, hc⟩ := sl_cell hm.at_ hy
    cases e
    have hadd : (⟨b, off, none⟩ : Addr).add j = ⟨b, off + j, none⟩ := by simp [Addr.add]
    rw [hadd]
    exact hc
  have hrun := run_append_nil (P := Try.prog) w 30 o.type 5 i0 (.int .u8 0) Try.underlying30 hi hz0 ⟨b, off, none⟩ m.length xc (u8s m) (by rw [hz1]; simp) hcell h0 (by omega) (by rw [hz2]; omega)
  have hge := grownCap_ge w m.length 0 5
  have hle := grownCap_le_maxLen w m.length 0 5 (by unfold maxLen; omega)
  refine wpList_plain hgd fun K hK => ?_
  unfold Oper.wp
  simp [execOp, ho, resolve, invoke, builtin, hs, hx, hrun, Result.andThen]
  refine hK _ _ (h w.heap.size (grownCap w m.length 0 5) _ (.inr ⟨w.heap.size, m ++ List.replicate (grownCap w m.length 0 5 - m.length) 0, ?_, Nat.le_refl _, ?_, ?_, ?_, ?_⟩) ?_)
  · simp; omega
  · show _ = _
    have e : (u8s (m ++ List.replicate (grownCap w m.length 0 5 - m.length) 0)).toArray = (u8s m).toArray ++ Builtin.zeroCells (Value.int .u8 0).cells (grownCap w m.length 0 5 - m.length) := by
      apply Array.ext'
      rw [u8s_append, Array.toList_append, zeros_u8]
    rw [e]
    exact heap_alloc_new w.drew _
  · simp
  · simp
  · simp; omega
  · exact ⟨rfl, rfl, rfl, by simp, fun k hk _ => Below.heap_alloc w.drew _ k hk⟩
set_option maxHeartbeats 1000000 in
set_option maxRecDepth 100000 in
/-- 'Copy' of some bytes, the whole row told. -/
theorem copyB_whole (w : World) (xa : Option Addr) (xc n : Nat) (m : List Nat) (hn : m.length = n) (hm : Bs w xa xc m) (h0 : 0 < n) (hl : n ≤ 1000000) :
    Calls Try.prog 24 #[.slice xa n xc] w fun e w' => ∃ v, e = .returned v ∧ WholeB w' w.heap.size v m ∧ Kept (fun _ => False) w w' := by
  have HM := hid_of hm
  have HN := hid_of hn
  clear hm hn
  go_enter Try.func24, Try.ntmps24
  go_wp2_with (at_builtin; go_must (refine wpList_append_whole w rfl _ (.tmp 3) rfl rfl xa xc n m HN.out rfl HM.out h0 hl ?_))
  intro g c w2 ho hk
  go_wp2_with fail
  go_ret
  exact ⟨_, rfl, ho.out, hk.out⟩

end Go.Proofs.Ytjmeneddhalodaa

/- What the laws of disk lean on: contracts of the program's disk that lies somewhere in memory. -/
namespace Go.Proofs.Ytjmeneddhalodaa
set_option linter.unusedVariables false
set_option linter.unusedSimpArgs false
open Go.RowKit Dg

abbrev DiP := World → Nat → (Nat → Prop) → (Nat → Prop) → Sk → Prop
/-- A call turned the disk: it has s' now. -/
def Moved (Di : DiP) (w w' : World) (b : Nat) (F G : Nat → Prop) (s' : Sk) : Prop := ∃ F' G' : Nat → Prop, Di w' b F' G' s' ∧ Kept F w w' ∧ Sub F' F w.heap.size ∧ Sub G' G w.heap.size
/-- What is known of a disk of package disk. -/
structure Dsk (Di : DiP) : Prop where
  arms : ∀ {w b F G s}, Di w b F G s → s.Fine ∧ (∀ k, F k → G k) ∧ (∀ k, G k → k < w.heap.size)
  keep : ∀ {w w' b F G s} {X : Nat → Prop}, Di w b F G s → Kept X w w' → (∀ k, G k → ¬ X k) → Di w' b F G s
  newB : ∀ (w : World) (n : Nat), 1 ≤ n → n ≤ 4096 → Calls Try.prog 10 #[.int .i64 (n : Int)] w fun e w' => ∃ (b : Nat) (F G : Nat → Prop), e = .returned (.tuple #[.pointer (some ⟨b, 0, none⟩), .int .i64 0]) ∧ Di w' b F G (newS n) ∧ (∀ k, G k → w.heap.size ≤ k) ∧ Below w.heap.size w w'
  writeB : ∀ (w : World) (b : Nat) (F G : Nat → Prop) (s : Sk) (i : Int) (a : Option Addr) (n cap : Nat) (l : List Nat), Di w b F G s → I64 i → l.length = n → Bs w a cap l → (∀ x ∈ l, x < 256) → n ≤ 1000000 → (l ≠ [] → ∀ y, a = some y → ¬ F y.block) → s.writes ≤ 1000000 → s.W.length ≤ 100000 →
    Calls Try.prog 12 #[.pointer (some ⟨b, 0, none⟩), .int .i64 i, .slice a n cap] w fun e w' => e = .returned (.int .i64 (s.writeR i l)) ∧ Moved Di w w' b F G (s.writeS i l)
  waitB : ∀ (w : World) (b : Nat) (F G : Nat → Prop) (s : Sk) (n : Nat), Di w b F G s → n = s.W.length → Calls Try.prog 17 #[.pointer (some ⟨b, 0, none⟩)] w fun e w' => e = .returned (.int .i64 (n : Int)) ∧ ∃ d, w' = w.drewN d
  crashB : ∀ (w : World) (b : Nat) (F G : Nat → Prop) (s : Sk) (a : Option Addr) (n cap : Nat) (l : List Bool), Di w b F G s → l.length = n → BlAt w a l → n ≤ 1000000 → (l ≠ [] → ∀ y, a = some y → ¬ F y.block) → s.W.length ≤ 100000 →
    Calls Try.prog 18 #[.pointer (some ⟨b, 0, none⟩), .slice a n cap] w fun e w' => e = .returned (.tuple #[]) ∧ Moved Di w w' b F G (s.crashS l)
  imageB : ∀ (w : World) (b : Nat) (F G : Nat → Prop) (s : Sk), Di w b F G s → Calls Try.prog 25 #[.pointer (some ⟨b, 0, none⟩)] w fun e w' => ∃ v, e = .returned v ∧ OwnBytes w' w.heap.size v s.B ∧ Di w' b F G s ∧ Kept (fun _ => False) w w'
/-- Its further calls, each for itself (a cut of the program may lack some). -/
def DNewNo : Prop := ∀ (w : World) (n : Int), ¬ (1 ≤ n ∧ n ≤ 4096) → I64 n → Calls Try.prog 10 #[.int .i64 n] w fun e w' => e = .returned (.tuple #[.pointer none, .int .i64 1]) ∧ Kept (fun _ => False) w w'
def DFrom (Di : DiP) : Prop := ∀ (w : World) (a : Option Addr) (n cap : Nat) (l : List Nat), l.length = n → Bs w a cap l → (∀ x ∈ l, x < 256) → diskLen n → Calls Try.prog 31 #[.slice a n cap] w fun e w' => ∃ (b : Nat) (F G : Nat → Prop), e = .returned (.tuple #[.pointer (some ⟨b, 0, none⟩), .int .i64 0]) ∧ Di w' b F G (fromS l) ∧ (∀ k, G k → w.heap.size ≤ k) ∧ Below w.heap.size w w'
def DFromNo : Prop := ∀ (w : World) (a : Option Addr) (n cap : Nat) (l : List Nat), l.length = n → Bs w a cap l → n ≤ 100000000 → ¬ diskLen n → Calls Try.prog 31 #[.slice a n cap] w fun e w' => e = .returned (.tuple #[.pointer none, .int .i64 1]) ∧ Kept (fun _ => False) w w'
def DLen (Di : DiP) : Prop := ∀ (w : World) (b : Nat) (F G : Nat → Prop) (s : Sk) (n : Nat), Di w b F G s → n = s.B.length / 128 → Calls Try.prog 53 #[.pointer (some ⟨b, 0, none⟩)] w fun e w' => e = .returned (.int .i64 (n : Int)) ∧ ∃ d, w' = w.drewN d
def DDead (Di : DiP) : Prop := ∀ (w : World) (b : Nat) (F G : Nat → Prop) (s : Sk) (x : Bool), Di w b F G s → x = s.dead → Calls Try.prog 14 #[.pointer (some ⟨b, 0, none⟩)] w fun e w' => e = .returned (.bool x) ∧ ∃ d, w' = w.drewN d
def DCounts (Di : DiP) : Prop := ∀ (w : World) (b : Nat) (F G : Nat → Prop) (s : Sk), Di w b F G s → Calls Try.prog 52 #[.pointer (some ⟨b, 0, none⟩)] w fun e w' => e = .returned (.tuple #[.int .i64 (s.reads : Int), .int .i64 (s.writes : Int), .int .i64 (s.flushes : Int)]) ∧ ∃ d, w' = w.drewN d
def DRead (Di : DiP) : Prop := ∀ (w : World) (b : Nat) (F G : Nat → Prop) (s : Sk) (i : Int), Di w b F G s → I64 i → s.reads ≤ 1000000 → s.W.length ≤ 100000 →
  Calls Try.prog 15 #[.pointer (some ⟨b, 0, none⟩), .int .i64 i] w fun e w' => ∃ v, e = .returned (.tuple #[v, .int .i64 (s.readR i).2]) ∧ WholeB w' w.heap.size v (s.readR i).1 ∧ ∃ F' G' : Nat → Prop, Di w' b F' G' (s.readS i) ∧ Kept F w w' ∧ Sub F' F w.heap.size ∧ Sub G' G w.heap.size ∧ ∀ k, v.ownBlock = some k → ¬ G' k
def DFlush (Di : DiP) : Prop := ∀ (w : World) (b : Nat) (F G : Nat → Prop) (s : Sk), Di w b F G s → s.flushes ≤ 1000000 → s.W.length ≤ 100000 → Calls Try.prog 16 #[.pointer (some ⟨b, 0, none⟩)] w fun e w' => e = .returned (.int .i64 s.flushR) ∧ Moved Di w w' b F G s.flushS
def DStop (Di : DiP) : Prop := ∀ (w : World) (b : Nat) (F G : Nat → Prop) (s : Sk) (a : Int), Di w b F G s → I64 a → Calls Try.prog 11 #[.pointer (some ⟨b, 0, none⟩), .int .i64 a] w fun e w' => e = .returned (.tuple #[]) ∧ Moved Di w w' b F G (s.stopS a)
def DPoke (Di : DiP) : Prop := ∀ (w : World) (b : Nat) (F G : Nat → Prop) (s : Sk) (i dg : Int), Di w b F G s → I64 i → I64 dg → s.W.length ≤ 100000 → Calls Try.prog 22 #[.pointer (some ⟨b, 0, none⟩), .int .i64 i, .int .i64 dg] w fun e w' => e = .returned (.bool (decide (s.pokes i dg))) ∧ Moved Di w w' b F G (s.pokeS i dg)
def DClone (Di : DiP) : Prop := ∀ (w : World) (b : Nat) (F G : Nat → Prop) (s : Sk), Di w b F G s → s.W.length ≤ 100000 → Calls Try.prog 28 #[.pointer (some ⟨b, 0, none⟩)] w fun e w' => ∃ (c : Nat) (F' G' : Nat → Prop), e = .returned (.pointer (some ⟨c, 0, none⟩)) ∧ Di w' c F' G' s ∧ Below w.heap.size w w' ∧ (∀ k, F' k → w.heap.size ≤ k) ∧ Sub G' G w.heap.size ∧ Apart F G'

theorem Dsk.draws {Di : DiP} (C : Dsk Di) {w : World} {b : Nat} {F G : Nat → Prop} {s : Sk} (h : Di w b F G s) (d : Nat) : Di (w.drewN d) b F G s := C.keep (X := fun _ => False) h ⟨rfl, rfl, rfl, Nat.le_refl _, fun _ _ _ => rfl⟩ (fun _ _ h => h)
theorem Dsk.grow {Di : DiP} (C : Dsk Di) {w w' : World} {b : Nat} {F G : Nat → Prop} {s : Sk} (h : Di w b F G s) (hb : Below w.heap.size w w') : Di w' b F G s := C.keep (X := fun _ => False) h (Kept.of_below hb) (fun _ _ h => h)
/-- What a call on a disk that lies from B on does to what lies below B. -/
theorem Kept.under {W w w' : World} {F : Nat → Prop} (hb : Below W.heap.size W w) (hk : Kept F w w') (hF : ∀ k, F k → W.heap.size ≤ k) : Below W.heap.size W w' := hk.below_of hb hF hb.size

set_option maxHeartbeats 1000000 in
set_option maxRecDepth 100000 in
/-- 'full(b)'. -/
theorem full_any (w : World) (a : Option Addr) (n cap : Nat) (l : List Nat) (hn : l.length = n) (hb : Bs w a cap l) (L : List Nat) (hL : L = over l (List.replicate 128 0)) :
    Calls Try.prog 13 #[.slice a n cap] w fun e w' => ∃ g, e = .returned (.slice (some ⟨g, 0, none⟩) 128 128) ∧ w'.ownsRow w.heap.size 5 1 (.slice (some ⟨g, 0, none⟩) 128 128) 128 (u8s L) ∧ Below w.heap.size w w' := by
  obtain ⟨i0, hi, hz0, hz1, hz2⟩ := info_parts Try.info5
  subst hn
  have HB := hid_of hb
  have HL := hid_of hL
  clear hb hL
  go_enter Try.func13, Try.ntmps13
  go_wp2_with (at_make; refine wpList_make_full _ rfl _ _ 30 rfl w.heap.size 5 i0 (.int .u8 0) 1 Try.underlying30 hi hz0 hz1 _ _ _ _ 128 rfl rfl rfl rfl (by rw [hz2]; omega) (by unfold maxLen; omega) (Nat.le_refl _) ?_)
  intro w2 hown hgr
  have hb2 : Below w.heap.size w w2 := (Below.refl _ _).grown hgr (Nat.le_refl _) (fun k hk => by cases hk)
  have HO : Hid (w2.ownsRow w.heap.size 5 1 (.slice (some ⟨w.heap.size, 0, none⟩) 128 128) 128 (u8s (List.replicate 128 0))) := by have e := made_zeros 128; rw [Nat.mul_one] at e; rw [← e]; exact hown
  have HS2 := hid_of (HB.out.below hb2)
  have HB2 := hid_of hb2
  clear hown hgr hb2 HB
  obtain ⟨g, hg⟩ : ∃ g, g = w.heap.size := ⟨_, rfl⟩
  have hgw : w.heap.size ≤ g := by omega
  rw [← hg] at HO ⊢
  clear hg
  go_wp2_with (refine wpList_copy_n rfl (.tmp 5) (.tmp 6) 30 30 rfl Try.underlying30 (by simp [hi, hz1]) g g 128 128 (List.replicate 128 0) (by simp) HO.out a cap l HS2.out.at_ rfl rfl ?_)
  intro w3 k3 hO3 hk3
  have HO3 : Hid (w3.ownsRow w.heap.size 5 1 (.slice (some ⟨g, 0, none⟩) 128 128) 128 (u8s L)) := by rw [HL.out]; exact ownsRow_base hO3.out hgw
  have HB3 : Hid (Below w.heap.size w w3) := Kept.under HB2.out hk3.out (fun k e => by omega)
  clear hO3 hk3
  go_wp2_with fail
  go_ret
  exact ⟨g, rfl, HO3.out, HB3.out⟩

end Go.Proofs.Ytjmeneddhalodaa

/- The document's example of chapter 10, over the bundle. -/
namespace Go.Proofs.Ytjmeneddhalodaa
set_option linter.unusedVariables false
set_option linter.unusedSimpArgs false
open Go.RowKit Dg

theorem newS_write1 (b : List Nat) (hb : b.length = 128) : (newS 1).writeR 0 b = 0 ∧ ((newS 1).writeS 0 b).W.length = 1 ∧ ((newS 1).writeS 0 b).B.length = 128 := by
  have hf : (newS 1).fits 0 := by unfold Sk.fits newS; simp
  have hno : ¬ (¬ (newS 1).fits 0 ∨ b.length ≠ 128) := fun e => by rcases e with e | e; exact e hf; exact e hb
  have ha : (newS 1).arm = newS 1 := rfl
  refine ⟨?_, ?_, ?_⟩
  · unfold Sk.writeR; rw [if_neg hno, ha]; rfl
  · unfold Sk.writeS; rw [if_neg hno, ha]; rfl
  · unfold Sk.writeS; rw [if_neg hno, ha]; simp [newS]
theorem crashS_len {s : Sk} (h : s.Fine) (keep : List Bool) : (s.crashS keep).B.length = s.B.length ∧ (s.crashS keep).W = [] := ⟨(keepTo_fine h _ _ (Nat.le_refl _)).1, rfl⟩
set_option maxRecDepth 100000 in
set_option maxHeartbeats 4000000 in
theorem wakes10_any {Di : DiP} (C : Dsk Di) (w : World) : Calls Try.prog 20 #[] w fun e w' => e = .returned (.bool true) ∧ Below w.heap.size w w' := by
  obtain ⟨i0, hi, hz0, hz1, hz2⟩ := info_parts Try.info5
  obtain ⟨Z, hZ⟩ : ∃ Z : List Nat, Z = List.replicate 128 0 := ⟨_, rfl⟩
  have hZl : Z.length = 128 := by rw [hZ]; simp
  have HZ := hid_of hZ
  have HZL := hid_of hZl
  have HZ256 : Hid (∀ x ∈ Z, x < 256) := by rw [hZ]; intro x hx; have := (List.mem_replicate.1 hx).2; omega
  obtain ⟨s1, hs1⟩ : ∃ s1, s1 = newS 1 := ⟨_, rfl⟩
  obtain ⟨s2, hs2⟩ : ∃ s2, s2 = s1.writeS 0 Z := ⟨_, rfl⟩
  obtain ⟨s3, hs3⟩ : ∃ s3, s3 = s2.crashS [] := ⟨_, rfl⟩
  have HF : Hid (s1.writeR 0 Z = 0 ∧ 1 = s2.W.length ∧ s2.B.length = 128 ∧ s1.writes ≤ 1000000 ∧ s1.W.length ≤ 100000) := by
    rw [hs2, hs1]
    obtain ⟨h1, h2, h3⟩ := newS_write1 Z hZl
    exact ⟨h1, h2.symm, h3, by simp [newS], by simp [newS]⟩
  have HS1 := hid_of hs1
  have HS2 := hid_of hs2
  have HS3 := hid_of hs3
  clear hZ hZl hs1 hs2 hs3
  go_enter Try.func20, Try.ntmps20
  go_wp2_with fail
  refine (C.newB w 1 (by decide) (by decide)).mono ?_
  rintro e w1 ⟨b, F, G, rfl, hd1, hG1, hb1⟩
  rw [← HS1.out] at hd1
  have HD1 := hid_of hd1
  have HG1 := hid_of hG1
  have HB1 := hid_of hb1
  have HA1 := hid_of (C.arms hd1)
  clear hd1 hG1 hb1
  go_wp2_with (at_make; refine wpList_make_full _ rfl _ _ 30 rfl w1.heap.size 5 i0 (.int .u8 0) 1 Try.underlying30 hi hz0 hz1 _ _ _ _ 128 rfl rfl rfl rfl (by rw [hz2]; omega) (by unfold maxLen; omega) (Nat.le_refl _) ?_)
  intro w2 hown hgr
  have hb2 : Below w1.heap.size w1 w2 := (Below.refl _ _).grown hgr (Nat.le_refl _) (fun k hk => by cases hk)
  have ho : w2.ownsRow w1.heap.size 5 1 (.slice (some ⟨w1.heap.size, 0, none⟩) 128 128) 128 (u8s Z) := by have e := made_zeros 128; rw [Nat.mul_one] at e; rw [HZ.out, ← e]; exact hown
  have HBS : Hid (Bs w2 (some ⟨w1.heap.size, 0, none⟩) 128 Z) := by
    refine Bs.own (base := w1.heap.size) ?_
    unfold OwnBytes
    rw [HZL.out]
    exact ho
  have HD2 := hid_of (C.grow HD1.out hb2)
  have HB2 : Hid (Below w.heap.size w w2) := HB1.out.trans (hb2.mono HB1.out.size)
  have HC := hid_of (C.writeB w2 b F G s1 0 _ 128 128 Z HD2.out ⟨by decide, by decide⟩ HZL.out HBS.out HZ256.out (by decide) (fun _ y hy hf => by cases hy; have := HA1.out.2.2 _ (HA1.out.2.1 _ hf); have e : w1.heap.size < w1.heap.size := this; omega) HF.out.2.2.2.1 HF.out.2.2.2.2)
  rw [HF.out.1, ← HS2.out] at HC
  clear hown hgr hb2 ho
  go_wp2_with fail
  refine HC.out.mono ?_
  rintro e w3 ⟨rfl, F3, G3, hd3, hk3, hF3, hG3⟩
  have HD3 := hid_of hd3
  have HB3 : Hid (Below w.heap.size w w3) := Kept.under HB2.out hk3 (fun k e => HG1.out k (HA1.out.2.1 k e))
  have HF3 : Hid (∀ k, F3 k → w.heap.size ≤ k) := fun k e => by rcases hF3 k e with h | h; exact HG1.out k (HA1.out.2.1 k h); exact Nat.le_trans HB2.out.size h
  clear hd3 hk3 hF3 hG3 HC
  go_wp2_with fail
  refine (C.waitB w3 b F3 G3 s2 1 HD3.out HF.out.2.1).mono ?_
  rintro e w4 ⟨rfl, d4, rfl⟩
  have HC4 := hid_of (C.crashB (w3.drewN d4) b F3 G3 s2 none 0 0 [] (C.draws HD3.out d4) rfl (BlAt.nil _ _) (by decide) (fun h => absurd rfl h) (by rw [← HF.out.2.1]; decide))
  rw [← HS3.out] at HC4
  have HA2 := hid_of (C.arms HD3.out).1
  go_wp2_with fail
  refine HC4.out.mono ?_
  rintro e w5 ⟨rfl, F5, G5, hd5, hk5, hF5, hG5⟩
  have HD5 := hid_of hd5
  have HB5 : Hid (Below w.heap.size w w5) := Kept.under (w := w3.drewN d4) ⟨HB3.out.os, HB3.out.tape, HB3.out.output, HB3.out.size, HB3.out.block⟩ hk5 HF3.out
  have HW5 : Hid (0 = s3.W.length) := by show _ = _; rw [HS3.out, (crashS_len HA2.out []).2]; rfl
  have HL5 : Hid (s3.B.length = 128) := by show _ = _; rw [HS3.out, (crashS_len HA2.out []).1]; exact HF.out.2.2.1
  clear hd5 hk5 hF5 hG5 HC4
  go_wp2_with fail
  refine (C.waitB w5 b F5 G5 s3 0 HD5.out HW5.out).mono ?_
  rintro e w6 ⟨rfl, d6, rfl⟩
  go_wp2_with fail
  refine (C.imageB (w5.drewN d6) b F5 G5 s3 (C.draws HD5.out d6)).mono ?_
  rintro e w7 ⟨v7, rfl, ho7, -, hk7⟩
  obtain ⟨a7, c7, rfl, -⟩ := OwnBytes.bs ho7
  rw [HL5.out]
  have HB7 : Hid (Below w.heap.size w w7) := Kept.under (w := w5.drewN d6) ⟨HB5.out.os, HB5.out.tape, HB5.out.output, HB5.out.size, HB5.out.block⟩ hk7 (fun _ h => h.elim)
  clear ho7 hk7
  go_wp2_with fail
  go_ret
  exact ⟨rfl, HB7.out⟩

end Go.Proofs.Ytjmeneddhalodaa

/- Two disks beside each other, the program's and the document's: a call on one of them leaves the other one as it was. -/
namespace Go.Proofs.Ytjmeneddhalodaa
set_option linter.unusedVariables false
set_option linter.unusedSimpArgs false
open Go.RowKit Dg

/-- The program's disk d has s, the document's r has t; since w0 nothing was turned but what was theirs; the blocks X are none of theirs. -/
def Two (Di : DiP) (w0 : World) (F0 G0 F20 G20 X : Nat → Prop) (w : World) (d r : Nat) (s t : Sk) : Prop :=
  ∃ F G F2 G2 : Nat → Prop, Di w d F G s ∧ RkAt w r F2 G2 t ∧ Apart F G2 ∧ Apart F2 G ∧ (Sub F F0 w0.heap.size ∧ Sub G G0 w0.heap.size ∧ Sub F2 F20 w0.heap.size ∧ Sub G2 G20 w0.heap.size) ∧ Kept (fun k => F0 k ∨ F20 k) w0 w ∧ ∀ k, X k → (¬ G k ∧ ¬ G2 k) ∧ k < w.heap.size
theorem Two.first {Di : DiP} (C : Dsk Di) {w : World} {d r : Nat} {s t : Sk} {F G F2 G2 X : Nat → Prop} (h1 : Di w d F G s) (h2 : RkAt w r F2 G2 t) (h3 : Apart F G2) (h4 : Apart F2 G) (hX : ∀ k, X k → (¬ G k ∧ ¬ G2 k) ∧ k < w.heap.size) : Two Di w F G F2 G2 X w d r s t :=
  ⟨F, G, F2, G2, h1, h2, h3, h4, ⟨Sub.refl _ _, Sub.refl _ _, Sub.refl _ _, Sub.refl _ _⟩, Kept.refl _ _, hX⟩
theorem Two.fine {Di : DiP} (C : Dsk Di) {w0 w : World} {d r : Nat} {s t : Sk} {F0 G0 F20 G20 X : Nat → Prop} (h : Two Di w0 F0 G0 F20 G20 X w d r s t) : s.Fine ∧ t.Fine ∧ w0.heap.size ≤ w.heap.size := by
  obtain ⟨F, G, F2, G2, h1, h2, -, -, -, hk, -⟩ := h
  exact ⟨(C.arms h1).1, h2.arms.1, hk.size⟩
/-- A step that turns none of theirs. -/
theorem Two.keep {Di : DiP} (C : Dsk Di) {w0 w w' : World} {d r : Nat} {s t : Sk} {F0 G0 F20 G20 X Y : Nat → Prop} (h : Two Di w0 F0 G0 F20 G20 X w d r s t) (hk : Kept (fun k => w.heap.size ≤ k) w w') (hY : ∀ k, Y k → X k ∨ (w.heap.size ≤ k ∧ k < w'.heap.size)) : Two Di w0 F0 G0 F20 G20 Y w' d r s t := by
  obtain ⟨F, G, F2, G2, h1, h2, h3, h4, h5, h6, h7⟩ := h
  have a1 := C.arms h1
  have a2 := h2.arms
  refine ⟨F, G, F2, G2, C.keep h1 hk (fun k e e2 => by have := a1.2.2 k e; omega), h2.keep hk (fun k e e2 => by have := a2.2.2.2 k e; omega), h3, h4, h5, h6.trans' hk (fun i hi e => by have := h6.size; omega), fun k e => ?_⟩
  rcases hY k e with e1 | ⟨e1, e2⟩
  · have := h7 k e1
    exact ⟨this.1, Nat.lt_of_lt_of_le this.2 hk.size⟩
  · exact ⟨⟨fun f => by have := a1.2.2 k f; omega, fun f => by have := a2.2.2.2 k f; omega⟩, e2⟩
/-- A step that turns a block of X alone. -/
theorem Two.mine {Di : DiP} (C : Dsk Di) {w0 w w' : World} {d r : Nat} {s t : Sk} {F0 G0 F20 G20 X : Nat → Prop} (h : Two Di w0 F0 G0 F20 G20 X w d r s t) (g : Nat) (hk : Kept (fun k => k = g) w w') (hn : w0.heap.size ≤ g) (hg : X g) : Two Di w0 F0 G0 F20 G20 X w' d r s t := by
  obtain ⟨F, G, F2, G2, h1, h2, h3, h4, h5, h6, h7⟩ := h
  obtain ⟨⟨n1, n2⟩, -⟩ := h7 g hg
  refine ⟨F, G, F2, G2, C.keep h1 hk (fun k e e2 => n1 (e2 ▸ e)), h2.keep hk (fun k e e2 => n2 (e2 ▸ e)), h3, h4, h5, h6.trans' hk (fun i hi e => by omega), fun k e => ⟨(h7 k e).1, Nat.lt_of_lt_of_le (h7 k e).2 hk.size⟩⟩
theorem Two.less {Di : DiP} {w0 w : World} {d r : Nat} {s t : Sk} {F0 G0 F20 G20 X Y : Nat → Prop} (h : Two Di w0 F0 G0 F20 G20 X w d r s t) (hY : ∀ k, Y k → X k) : Two Di w0 F0 G0 F20 G20 Y w d r s t := by
  obtain ⟨F, G, F2, G2, h1, h2, h3, h4, h5, h6, h7⟩ := h
  exact ⟨F, G, F2, G2, h1, h2, h3, h4, h5, h6, fun k e => h7 k (hY k e)⟩
/-- A call on the program's disk. -/
theorem Two.left {Di : DiP} (C : Dsk Di) {w0 w : World} {d r f : Nat} {s s' t : Sk} {F0 G0 F20 G20 X : Nat → Prop} {args : Array Value} {P : Ending → Prop} (h : Two Di w0 F0 G0 F20 G20 X w d r s t)
    (hc : ∀ F G : Nat → Prop, Di w d F G s → (∀ k, X k → ¬ F k) → Calls Try.prog f args w fun e w' => P e ∧ Moved Di w w' d F G s') :
    Calls Try.prog f args w fun e w' => P e ∧ Two Di w0 F0 G0 F20 G20 X w' d r s' t ∧ Kept (fun k => ¬ X k) w w' := by
  obtain ⟨F, G, F2, G2, h1, h2, h3, h4, ⟨h5, h6, h7, h8⟩, h9, h10⟩ := h
  have a1 := C.arms h1
  have a2 := h2.arms
  refine (hc F G h1 (fun k e f => (h10 k e).1.1 (a1.2.1 k f))).mono ?_
  rintro e w' ⟨hP, F', G', m1, m2, m3, m4⟩
  refine ⟨hP, ⟨F', G', F2, G2, m1, h2.keep m2 (fun k e1 e2 => h3 k e2 e1), h3.grow m3 a2.2.2.2, h4.grow' m4 (fun k e => a2.2.2.2 k (a2.2.2.1 k e)), ⟨m3.trans h5 h9.size, m4.trans h6 h9.size, h7, h8⟩, h9.trans' m2 (fun i hi e => by rcases h5 i e with e1 | e1; exact .inl e1; omega), fun k e => ⟨⟨fun f => ?_, (h10 k e).1.2⟩, Nat.lt_of_lt_of_le (h10 k e).2 m2.size⟩⟩, m2.mono (fun i hi e e2 => (h10 i e2).1.1 (a1.2.1 i e))⟩
  rcases m4 k f with f1 | f1
  · exact (h10 k e).1.1 f1
  · have := (h10 k e).2; omega
/-- A call on the document's disk. -/
theorem Two.right {Di : DiP} (C : Dsk Di) {w0 w : World} {d r f : Nat} {s t t' : Sk} {F0 G0 F20 G20 X : Nat → Prop} {args : Array Value} {P : Ending → Prop} (h : Two Di w0 F0 G0 F20 G20 X w d r s t)
    (hc : ∀ F G : Nat → Prop, RkAt w r F G t → (∀ k, X k → ¬ F k) → Calls Try.prog f args w fun e w' => P e ∧ Moved RkAt w w' r F G t') :
    Calls Try.prog f args w fun e w' => P e ∧ Two Di w0 F0 G0 F20 G20 X w' d r s t' ∧ Kept (fun k => ¬ X k) w w' := by
  obtain ⟨F, G, F2, G2, h1, h2, h3, h4, ⟨h5, h6, h7, h8⟩, h9, h10⟩ := h
  have a1 := C.arms h1
  have a2 := h2.arms
  refine (hc F2 G2 h2 (fun k e f => (h10 k e).1.2 (a2.2.2.1 k f))).mono ?_
  rintro e w' ⟨hP, F', G', m1, m2, m3, m4⟩
  refine ⟨hP, ⟨F, G, F', G', C.keep h1 m2 (fun k e1 e2 => h4 k e2 e1), m1, h3.grow' m4 (fun k e => a1.2.2 k (a1.2.1 k e)), h4.grow m3 a1.2.2, ⟨h5, h6, m3.trans h7 h9.size, m4.trans h8 h9.size⟩, h9.trans' m2 (fun i hi e => by rcases h7 i e with e1 | e1; exact .inr e1; omega), fun k e => ⟨⟨(h10 k e).1.1, fun f => ?_⟩, Nat.lt_of_lt_of_le (h10 k e).2 m2.size⟩⟩, m2.mono (fun i hi e e2 => (h10 i e2).1.2 (a2.2.2.1 i e))⟩
  rcases m4 k f with f1 | f1
  · exact (h10 k e).1.2 f1
  · have := (h10 k e).2; omega

/-- The calls of both, one by one. -/
theorem two_dwrite {Di : DiP} (C : Dsk Di) {w0 w : World} {d r : Nat} {s t : Sk} {F0 G0 F20 G20 X : Nat → Prop} (h : Two Di w0 F0 G0 F20 G20 X w d r s t) (i : Int) (hi : I64 i) (a : Option Addr) (n cap : Nat) (l : List Nat) (hn : l.length = n) (hb : Bs w a cap l) (h256 : ∀ x ∈ l, x < 256) (hl : n ≤ 1000000) (hX : l ≠ [] → ∀ y, a = some y → X y.block) (hc : s.writes ≤ 1000000) (hW : s.W.length ≤ 100000) (R : Int) (hR : R = s.writeR i l) (s' : Sk) (hs : s' = s.writeS i l) :
    Calls Try.prog 12 #[.pointer (some ⟨d, 0, none⟩), .int .i64 i, .slice a n cap] w fun e w' => e = .returned (.int .i64 R) ∧ Two Di w0 F0 G0 F20 G20 X w' d r s' t ∧ Kept (fun k => ¬ X k) w w' := by
  subst hR hs
  exact h.left C (P := fun e => e = .returned (.int .i64 (s.writeR i l))) (fun F G hD hXF => C.writeB w d F G s i a n cap l hD hi hn hb h256 hl (fun hne y hy => hXF _ (hX hne y hy)) hc hW)
theorem two_rwrite {Di : DiP} (C : Dsk Di) {w0 w : World} {d r : Nat} {s t : Sk} {F0 G0 F20 G20 X : Nat → Prop} (h : Two Di w0 F0 G0 F20 G20 X w d r s t) (i : Int) (hi : I64 i) (a : Option Addr) (n cap : Nat) (l : List Nat) (hn : l.length = n) (hb : Bs w a cap l) (h256 : ∀ x ∈ l, x < 256) (hl : n ≤ 1000000) (hX : l ≠ [] → ∀ y, a = some y → X y.block) (hc : t.writes ≤ 1000000) (hW : t.W.length ≤ 100000) (R : Int) (hR : R = t.writeR i l) (t' : Sk) (ht : t' = t.writeS i l) :
    Calls Try.prog 50 #[.pointer (some ⟨r, 0, none⟩), .int .i64 i, .slice a n cap] w fun e w' => e = .returned (.int .i64 R) ∧ Two Di w0 F0 G0 F20 G20 X w' d r s t' ∧ Kept (fun k => ¬ X k) w w' := by
  subst hn
  exact h.right C (P := fun e => e = .returned (.int .i64 R)) (fun F G hD hXF => rdwrite_any w r F G t hD i hi a cap l hb h256 hl (fun hne y hy => hXF _ (hX hne y hy)) hc hW R hR t' ht)
theorem two_dcrash {Di : DiP} (C : Dsk Di) {w0 w : World} {d r : Nat} {s t : Sk} {F0 G0 F20 G20 X : Nat → Prop} (h : Two Di w0 F0 G0 F20 G20 X w d r s t) (a : Option Addr) (n cap : Nat) (l : List Bool) (hn : l.length = n) (hb : BlAt w a l) (hl : n ≤ 1000000) (hX : l ≠ [] → ∀ y, a = some y → X y.block) (hW : s.W.length ≤ 100000) (s' : Sk) (hs : s' = s.crashS l) :
    Calls Try.prog 18 #[.pointer (some ⟨d, 0, none⟩), .slice a n cap] w fun e w' => e = .returned (.tuple #[]) ∧ Two Di w0 F0 G0 F20 G20 X w' d r s' t ∧ Kept (fun k => ¬ X k) w w' := by
  subst hs
  exact h.left C (P := fun e => e = .returned (.tuple #[])) (fun F G hD hXF => C.crashB w d F G s a n cap l hD hn hb hl (fun hne y hy => hXF _ (hX hne y hy)) hW)
theorem two_rcrash {Di : DiP} (C : Dsk Di) {w0 w : World} {d r : Nat} {s t : Sk} {F0 G0 F20 G20 X : Nat → Prop} (h : Two Di w0 F0 G0 F20 G20 X w d r s t) (a : Option Addr) (n cap : Nat) (l : List Bool) (hn : l.length = n) (hb : BlAt w a l) (hl : n ≤ 1000000) (hX : l ≠ [] → ∀ y, a = some y → X y.block) (hW : t.W.length ≤ 100000) (t' : Sk) (ht : t' = t.crashS l) :
    Calls Try.prog 47 #[.pointer (some ⟨r, 0, none⟩), .slice a n cap] w fun e w' => e = .returned (.tuple #[]) ∧ Two Di w0 F0 G0 F20 G20 X w' d r s t' ∧ Kept (fun k => ¬ X k) w w' := by
  subst hn
  exact h.right C (P := fun e => e = .returned (.tuple #[])) (fun F G hD hXF => (rdcrash_any w r F G t hD (by omega) a cap l hb hl (fun hne y hy => hXF _ (hX hne y hy)) t' ht).mono fun e w' ⟨h1, h2, h3⟩ => ⟨h1, F, G, h2, h3, Sub.refl _ _, Sub.refl _ _⟩)
theorem two_dstop {Di : DiP} (C : Dsk Di) (CS : DStop Di) {w0 w : World} {d r : Nat} {s t : Sk} {F0 G0 F20 G20 X : Nat → Prop} (h : Two Di w0 F0 G0 F20 G20 X w d r s t) (a : Int) (ha : I64 a) :
    Calls Try.prog 11 #[.pointer (some ⟨d, 0, none⟩), .int .i64 a] w fun e w' => e = .returned (.tuple #[]) ∧ Two Di w0 F0 G0 F20 G20 X w' d r (s.stopS a) t ∧ Kept (fun k => ¬ X k) w w' :=
  h.left C (P := fun e => e = .returned (.tuple #[])) (fun F G hD hXF => CS w d F G s a hD ha)
theorem two_rstop {Di : DiP} (C : Dsk Di) {w0 w : World} {d r : Nat} {s t : Sk} {F0 G0 F20 G20 X : Nat → Prop} (h : Two Di w0 F0 G0 F20 G20 X w d r s t) (a : Int) (ha : I64 a) :
    Calls Try.prog 46 #[.pointer (some ⟨r, 0, none⟩), .int .i64 a] w fun e w' => e = .returned (.tuple #[]) ∧ Two Di w0 F0 G0 F20 G20 X w' d r s (t.stopS a) ∧ Kept (fun k => ¬ X k) w w' :=
  h.right C (P := fun e => e = .returned (.tuple #[])) (fun F G hD hXF => (rdstop_any w r F G t hD a ha).mono fun e w' ⟨h1, h2, h3⟩ => ⟨h1, F, G, h2, h3, Sub.refl _ _, Sub.refl _ _⟩)
theorem two_dflush {Di : DiP} (C : Dsk Di) (CF : DFlush Di) {w0 w : World} {d r : Nat} {s t : Sk} {F0 G0 F20 G20 X : Nat → Prop} (h : Two Di w0 F0 G0 F20 G20 X w d r s t) (hc : s.flushes ≤ 1000000) (hW : s.W.length ≤ 100000) :
    Calls Try.prog 16 #[.pointer (some ⟨d, 0, none⟩)] w fun e w' => e = .returned (.int .i64 s.flushR) ∧ Two Di w0 F0 G0 F20 G20 X w' d r s.flushS t ∧ Kept (fun k => ¬ X k) w w' :=
  h.left C (P := fun e => e = .returned (.int .i64 s.flushR)) (fun F G hD hXF => CF w d F G s hD hc hW)
theorem two_rflush {Di : DiP} (C : Dsk Di) {w0 w : World} {d r : Nat} {s t : Sk} {F0 G0 F20 G20 X : Nat → Prop} (h : Two Di w0 F0 G0 F20 G20 X w d r s t) (hc : t.flushes ≤ 1000000) (hW : t.W.length ≤ 100000) :
    Calls Try.prog 45 #[.pointer (some ⟨r, 0, none⟩)] w fun e w' => e = .returned (.int .i64 t.flushR) ∧ Two Di w0 F0 G0 F20 G20 X w' d r s t.flushS ∧ Kept (fun k => ¬ X k) w w' :=
  h.right C (P := fun e => e = .returned (.int .i64 t.flushR)) (fun F G hD hXF => (rdflush_any w r F G t hD hc (by omega) _ rfl _ rfl).mono fun e w' ⟨h1, h2, h3⟩ => ⟨h1, F, G, h2, h3, Sub.refl _ _, Sub.refl _ _⟩)
theorem two_dpoke {Di : DiP} (C : Dsk Di) (CP : DPoke Di) {w0 w : World} {d r : Nat} {s t : Sk} {F0 G0 F20 G20 X : Nat → Prop} (h : Two Di w0 F0 G0 F20 G20 X w d r s t) (i dg : Int) (hi : I64 i) (hd : I64 dg) (hW : s.W.length ≤ 100000) :
    Calls Try.prog 22 #[.pointer (some ⟨d, 0, none⟩), .int .i64 i, .int .i64 dg] w fun e w' => e = .returned (.bool (decide (s.pokes i dg))) ∧ Two Di w0 F0 G0 F20 G20 X w' d r (s.pokeS i dg) t ∧ Kept (fun k => ¬ X k) w w' :=
  h.left C (P := fun e => e = .returned (.bool (decide (s.pokes i dg)))) (fun F G hD hXF => CP w d F G s i dg hD hi hd hW)
theorem two_rpoke {Di : DiP} (C : Dsk Di) {w0 w : World} {d r : Nat} {s t : Sk} {F0 G0 F20 G20 X : Nat → Prop} (h : Two Di w0 F0 G0 F20 G20 X w d r s t) (i dg : Int) (hi : I64 i) (hd : I64 dg) (hW : t.W.length ≤ 100000) :
    Calls Try.prog 48 #[.pointer (some ⟨r, 0, none⟩), .int .i64 i, .int .i64 dg] w fun e w' => e = .returned (.bool (decide (t.pokes i dg))) ∧ Two Di w0 F0 G0 F20 G20 X w' d r s (t.pokeS i dg) ∧ Kept (fun k => ¬ X k) w w' :=
  h.right C (P := fun e => e = .returned (.bool (decide (t.pokes i dg)))) (fun F G hD hXF => (rdpoke_any w r F G t hD i dg hi hd hW _ rfl _ rfl).mono fun e w' ⟨h1, G', h2, h3, h4⟩ => ⟨h1, F, G', h2, h3, Sub.refl _ _, h4⟩)

theorem two_dread {Di : DiP} (C : Dsk Di) (CR : DRead Di) {w0 w : World} {d r : Nat} {s t : Sk} {F0 G0 F20 G20 X : Nat → Prop} (h : Two Di w0 F0 G0 F20 G20 X w d r s t) (i : Int) (hi : I64 i) (hc : s.reads ≤ 1000000) (hW : s.W.length ≤ 100000) :
    Calls Try.prog 15 #[.pointer (some ⟨d, 0, none⟩), .int .i64 i] w fun e w' => ∃ v, e = .returned (.tuple #[v, .int .i64 (s.readR i).2]) ∧ WholeB w' w.heap.size v (s.readR i).1 ∧ Two Di w0 F0 G0 F20 G20 (fun k => X k ∨ v.ownBlock = some k) w' d r (s.readS i) t ∧ Kept (fun k => ¬ X k) w w' := by
  obtain ⟨F, G, F2, G2, h1, h2, h3, h4, ⟨h5, h6, h7, h8⟩, h9, h10⟩ := h
  have a1 := C.arms h1
  have a2 := h2.arms
  refine (CR w d F G s i h1 hi hc hW).mono ?_
  rintro e w' ⟨v, rfl, hv, F', G', m1, m2, m3, m4, m5⟩
  refine ⟨v, rfl, hv, ⟨F', G', F2, G2, m1, h2.keep m2 (fun k e1 e2 => h3 k e2 e1), h3.grow m3 a2.2.2.2, h4.grow' m4 (fun k e => a2.2.2.2 k (a2.2.2.1 k e)), ⟨m3.trans h5 h9.size, m4.trans h6 h9.size, h7, h8⟩, h9.trans' m2 (fun i hi e => by rcases h5 i e with e1 | e1; exact .inl e1; omega), fun k e => ?_⟩, m2.mono (fun i hi e e2 => (h10 i e2).1.1 (a1.2.1 i e))⟩
  rcases e with e | e
  · refine ⟨⟨fun f => ?_, (h10 k e).1.2⟩, Nat.lt_of_lt_of_le (h10 k e).2 m2.size⟩
    rcases m4 k f with f1 | f1
    · exact (h10 k e).1.1 f1
    · have := (h10 k e).2; omega
  · have hlt := World.ownsRow.lt hv.own k e
    exact ⟨⟨m5 k e, fun f => by have := a2.2.2.2 k f; omega⟩, hlt.2⟩
theorem two_rread {Di : DiP} (C : Dsk Di) {w0 w : World} {d r : Nat} {s t : Sk} {F0 G0 F20 G20 X : Nat → Prop} (h : Two Di w0 F0 G0 F20 G20 X w d r s t) (i : Int) (hi : I64 i) (hc : t.reads ≤ 1000000) (hW : t.W.length ≤ 100000) :
    Calls Try.prog 44 #[.pointer (some ⟨r, 0, none⟩), .int .i64 i] w fun e w' => ∃ v, e = .returned (.tuple #[v, .int .i64 (t.readR i).2]) ∧ OwnBytes w' w.heap.size v (t.readR i).1 ∧ Two Di w0 F0 G0 F20 G20 X w' d r s (t.readS i) ∧ Kept (fun k => ¬ X k) w w' := by
  obtain ⟨F, G, F2, G2, h1, h2, h3, h4, ⟨h5, h6, h7, h8⟩, h9, h10⟩ := h
  have a1 := C.arms h1
  have a2 := h2.arms
  refine (rdread_any w r F2 G2 t h2 i hi hc (by omega) _ rfl).mono ?_
  rintro e w' ⟨v, rfl, hv, m1, m2⟩
  refine ⟨v, rfl, hv, ⟨F, G, F2, G2, C.keep h1 m2 (fun k e1 e2 => h4 k e2 e1), m1, h3, h4, ⟨h5, h6, h7, h8⟩, h9.trans' m2 (fun i hi e => by rcases h7 i e with e1 | e1; exact .inr e1; omega), fun k e => ⟨(h10 k e).1, Nat.lt_of_lt_of_le (h10 k e).2 m2.size⟩⟩, m2.mono (fun i hi e e2 => (h10 i e2).1.2 (a2.2.2.1 i e))⟩
/-- What can be read of the document's disk. -/
theorem Two.fields {Di : DiP} {w0 w : World} {d r : Nat} {s t : Sk} {F0 G0 F20 G20 X : Nat → Prop} (h : Two Di w0 F0 G0 F20 G20 X w d r s t) : ∃ gB cB wa wc, w.cell? ⟨r, 0, none⟩ = some (.slice (some ⟨gB, 0, none⟩) t.B.length cB) ∧ w.cell? ⟨r, 1, none⟩ = some (.slice wa t.W.length wc) ∧ w.cell? ⟨r, 2, none⟩ = some (.bool t.dead) ∧ w.cell? ⟨r, 5, none⟩ = some (.int .i64 (t.reads : Int)) ∧ w.cell? ⟨r, 6, none⟩ = some (.int .i64 (t.writes : Int)) ∧ w.cell? ⟨r, 7, none⟩ = some (.int .i64 (t.flushes : Int)) ∧ SlAt w (.slice (some ⟨gB, 0, none⟩) t.B.length cB) t.B := by
  obtain ⟨F, G, F2, G2, -, ⟨gB, cB, vW, at_, D, h0, -⟩, -⟩ := h
  obtain ⟨c0, c1, c2, c3, c4, c5, c6, c7⟩ := h0.cell
  obtain ⟨wa, wc, rfl, -⟩ := h0.form
  exact ⟨gB, cB, wa, wc, c0, c1, c2, c5, c6, c7, SlAt.of_owns h0.bs⟩
theorem Two.draws {Di : DiP} (C : Dsk Di) {w0 w : World} {d r : Nat} {s t : Sk} {F0 G0 F20 G20 X : Nat → Prop} (h : Two Di w0 F0 G0 F20 G20 X w d r s t) (n : Nat) : Two Di w0 F0 G0 F20 G20 X (w.drewN n) d r s t :=
  h.keep C ⟨rfl, rfl, rfl, Nat.le_refl _, fun _ _ _ => rfl⟩ (fun k e => .inl e)

theorem drewN_more (w : World) (a b : Nat) : ∃ c, (w.drewN a).drewN b = w.drewN c := ⟨a + b, by simp [World.drewN, Nat.add_assoc]⟩
/-- What only reads, inside a region that draws, too. -/
theorem two_counts {Di : DiP} (C : Dsk Di) (CC : DCounts Di) {w0 w : World} {d r : Nat} {s t : Sk} {F0 G0 F20 G20 X : Nat → Prop} (h : Two Di w0 F0 G0 F20 G20 X w d r s t) (x y z : Nat) (hx : x = s.reads ∧ y = s.writes ∧ z = s.flushes) :
    Calls Try.prog 52 #[.pointer (some ⟨d, 0, none⟩)] w fun e w' => e = .returned (.tuple #[.int .i64 (x : Int), .int .i64 (y : Int), .int .i64 (z : Int)]) ∧ ∃ n, w' = w.drewN n := by
  obtain ⟨rfl, rfl, rfl⟩ := hx
  obtain ⟨F, G, F2, G2, h1, -⟩ := h
  exact CC w d F G s h1
theorem two_dead {Di : DiP} (C : Dsk Di) (CD : DDead Di) {w0 w : World} {d r : Nat} {s t : Sk} {F0 G0 F20 G20 X : Nat → Prop} (h : Two Di w0 F0 G0 F20 G20 X w d r s t) (k : Nat) (x : Bool) (hx : x = s.dead) :
    Calls Try.prog 14 #[.pointer (some ⟨d, 0, none⟩)] (w.drewN k) fun e w' => e = .returned (.bool x) ∧ ∃ n, w' = w.drewN n := by
  obtain ⟨F, G, F2, G2, h1, -⟩ := h
  exact (CD (w.drewN k) d F G s x (C.draws h1 k) hx).mono fun e w' ⟨e1, n, e2⟩ => ⟨e1, by rw [e2]; exact drewN_more w k n⟩
theorem two_wait {Di : DiP} (C : Dsk Di) {w0 w : World} {d r : Nat} {s t : Sk} {F0 G0 F20 G20 X : Nat → Prop} (h : Two Di w0 F0 G0 F20 G20 X w d r s t) (k x : Nat) (hx : x = s.W.length) :
    Calls Try.prog 17 #[.pointer (some ⟨d, 0, none⟩)] (w.drewN k) fun e w' => e = .returned (.int .i64 (x : Int)) ∧ ∃ n, w' = w.drewN n := by
  obtain ⟨F, G, F2, G2, h1, -⟩ := h
  exact (C.waitB (w.drewN k) d F G s x (C.draws h1 k) hx).mono fun e w' ⟨e1, n, e2⟩ => ⟨e1, by rw [e2]; exact drewN_more w k n⟩
theorem two_len {Di : DiP} (C : Dsk Di) (CL : DLen Di) {w0 w : World} {d r : Nat} {s t : Sk} {F0 G0 F20 G20 X : Nat → Prop} (h : Two Di w0 F0 G0 F20 G20 X w d r s t) (k x : Nat) (hx : x = s.B.length / 128) :
    Calls Try.prog 53 #[.pointer (some ⟨d, 0, none⟩)] (w.drewN k) fun e w' => e = .returned (.int .i64 (x : Int)) ∧ ∃ n, w' = w.drewN n := by
  obtain ⟨F, G, F2, G2, h1, -⟩ := h
  exact (CL (w.drewN k) d F G s x (C.draws h1 k) hx).mono fun e w' ⟨e1, n, e2⟩ => ⟨e1, by rw [e2]; exact drewN_more w k n⟩
theorem two_rlen {Di : DiP} (C : Dsk Di) {w0 w : World} {d r : Nat} {s t : Sk} {F0 G0 F20 G20 X : Nat → Prop} (h : Two Di w0 F0 G0 F20 G20 X w d r s t) (k x : Nat) (hx : x = t.B.length / 128) :
    Calls Try.prog 54 #[.pointer (some ⟨r, 0, none⟩)] (w.drewN k) fun e w' => e = .returned (.int .i64 (x : Int)) ∧ ∃ n, w' = w.drewN n := by
  obtain ⟨F, G, F2, G2, -, h2, -⟩ := h
  exact (rdlen_any (w.drewN k) r F2 G2 t (h2.keep (X := fun _ => False) ⟨rfl, rfl, rfl, Nat.le_refl _, fun _ _ _ => rfl⟩ (fun _ _ h => h)) x hx).mono fun e w' ⟨e1, e2⟩ => ⟨e1, k, e2.symm⟩
/-- A row of X was turned. -/
theorem Two.mineV {Di : DiP} (C : Dsk Di) {w0 w w' : World} {d r : Nat} {s t : Sk} {F0 G0 F20 G20 X : Nat → Prop} (h : Two Di w0 F0 G0 F20 G20 X w d r s t) (v : Value) (hk : Kept (fun k => v.ownBlock = some k) w w') (hv : ∀ k, v.ownBlock = some k → X k ∧ w0.heap.size ≤ k) : Two Di w0 F0 G0 F20 G20 X w' d r s t := by
  cases e : v.ownBlock with
  | none => exact h.keep C (hk.mono (fun k _ f => by rw [e] at f; cases f)) (fun k f => .inl f)
  | some g => exact h.mine C g (hk.mono (fun k _ f => by rw [e] at f; cases f; rfl)) (hv g e).2 (hv g e).1

end Go.Proofs.Ytjmeneddhalodaa

/- 'play': the same calls on both disks answer alike. -/
namespace Go.Proofs.Ytjmeneddhalodaa
set_option linter.unusedVariables false
set_option linter.unusedSimpArgs false
open Go.RowKit Dg

/-- A call, as plain data. -/
structure Act1 where
  do_ : Int
  i : Int
  n : Int
  B : List Nat
  K : List Bool
/-- One call in memory, all of it below B0. -/
def ActAt (w : World) (B0 : Nat) (a : Option Addr) (j : Nat) (x : Act1) : Prop := ∃ (b off : Nat) (ba : Option Addr) (bc : Nat) (ka : Option Addr) (kc : Nat), a = some ⟨b, off, none⟩ ∧ b < B0 ∧
  (w.cell? ⟨b, off + j * 5, none⟩ = some (.int .i64 x.do_) ∧ w.cell? ⟨b, off + j * 5 + 1, none⟩ = some (.int .i64 x.i) ∧ w.cell? ⟨b, off + j * 5 + 2, none⟩ = some (.int .i64 x.n) ∧ w.cell? ⟨b, off + j * 5 + 3, none⟩ = some (.slice ba x.B.length bc) ∧ w.cell? ⟨b, off + j * 5 + 4, none⟩ = some (.slice ka x.K.length kc)) ∧
  (I64 x.do_ ∧ I64 x.i ∧ I64 x.n) ∧ (Bs w ba bc x.B ∧ (∀ y ∈ x.B, y < 256) ∧ (x.B ≠ [] → ∀ y, ba = some y → y.block < B0)) ∧ (BlAt w ka x.K ∧ (x.K ≠ [] → ∀ y, ka = some y → y.block < B0) ∧ x.K.length ≤ kc ∧ kc ≤ 9223372036854775807)
/-- Calls in memory. -/
def ActsK (w : World) (B0 : Nat) (a : Option Addr) (L : List Act1) : Prop := ∀ j x, L[j]? = some x → ActAt w B0 a j x
theorem ActAt.kept {w w' : World} {B0 : Nat} {a : Option Addr} {j : Nat} {x : Act1} (h : ActAt w B0 a j x) (hB : B0 ≤ w.heap.size) {F : Nat → Prop} (hk : Kept F w w') (hF : ∀ k, k < B0 → ¬ F k) : ActAt w' B0 a j x := by
  obtain ⟨b, off, ba, bc, ka, kc, h1, h2, ⟨c0, c1, c2, c3, c4⟩, h3, ⟨h4, h5, h6⟩, h7, h8, h9⟩ := h
  refine ⟨b, off, ba, bc, ka, kc, h1, h2, ⟨?_, ?_, ?_, ?_, ?_⟩, h3, ⟨h4.kept hk (fun hne k e => ?_), h5, h6⟩, h7.kept hk (fun hne y hy => hF _ (h8 hne y hy)), h8, h9⟩
  · rw [hk.cell (by omega) (hF b h2)]; exact c0
  · rw [hk.cell (by omega) (hF b h2)]; exact c1
  · rw [hk.cell (by omega) (hF b h2)]; exact c2
  · rw [hk.cell (by omega) (hF b h2)]; exact c3
  · rw [hk.cell (by omega) (hF b h2)]; exact c4
  · cases ha : ba with
    | none => rw [ha] at e; cases e
    | some y => rw [ha] at e; cases e; exact hF _ (h6 hne y ha)
/-- How often it was used. -/
def Sk.used (s : Sk) (c : Nat) : Prop := s.reads ≤ c ∧ s.writes ≤ c ∧ s.flushes ≤ c ∧ s.W.length ≤ c
theorem Sk.used.up {s : Sk} {c c' : Nat} (h : s.used c) (hc : c ≤ c') : s.used c' := ⟨Nat.le_trans h.1 hc, Nat.le_trans h.2.1 hc, Nat.le_trans h.2.2.1 hc, Nat.le_trans h.2.2.2 hc⟩
theorem Sk.used.arm {s : Sk} {c : Nat} (h : s.used c) : s.arm.used c := by unfold Sk.arm; split <;> exact h
theorem Sk.used.read {s : Sk} {c : Nat} (h : s.used c) (i : Int) : (s.readS i).used (c + 1) := by
  unfold Sk.readS
  split
  · exact ⟨Nat.add_le_add_right h.1 1, Nat.le_succ_of_le h.2.1, Nat.le_succ_of_le h.2.2.1, Nat.le_succ_of_le h.2.2.2⟩
  · exact h.up (Nat.le_succ _)
theorem Sk.used.write {s : Sk} {c : Nat} (h : s.used c) (i : Int) (b : List Nat) : (s.writeS i b).used (c + 1) := by
  unfold Sk.writeS
  split
  · exact h.up (Nat.le_succ _)
  · split
    · exact h.arm.up (Nat.le_succ _)
    · have h1 := s.arm_counts
      exact ⟨by show s.arm.reads ≤ _; rw [h1.1]; exact Nat.le_succ_of_le h.1, Nat.add_le_add_right h.2.1 1, by show s.arm.flushes ≤ _; rw [h1.2.2]; exact Nat.le_succ_of_le h.2.2.1, by show (s.W ++ _).length ≤ _; rw [List.length_append]; exact Nat.add_le_add_right h.2.2.2 1⟩
theorem Sk.used.flush {s : Sk} {c : Nat} (h : s.used c) : s.flushS.used (c + 1) := by
  unfold Sk.flushS
  split
  · exact h.arm.up (Nat.le_succ _)
  · have h1 := s.arm_counts
    exact ⟨by show s.arm.reads ≤ _; rw [h1.1]; exact Nat.le_succ_of_le h.1, by show s.arm.writes ≤ _; rw [h1.2.1]; exact Nat.le_succ_of_le h.2.1, Nat.add_le_add_right h.2.2.1 1, Nat.zero_le _⟩
theorem Sk.used.stop {s : Sk} {c : Nat} (h : s.used c) (a : Int) : (s.stopS a).used (c + 1) := Sk.used.up (s := s.stopS a) h (Nat.le_succ _)
theorem Sk.used.crash {s : Sk} {c : Nat} (h : s.used c) (l : List Bool) : (s.crashS l).used (c + 1) := ⟨Nat.le_succ_of_le h.1, Nat.le_succ_of_le h.2.1, Nat.le_succ_of_le h.2.2.1, Nat.zero_le _⟩
theorem Sk.used.poke {s : Sk} {c : Nat} (h : s.used c) (i dg : Int) : (s.pokeS i dg).used (c + 1) := by
  unfold Sk.pokeS
  split
  · exact ⟨Nat.le_succ_of_le h.1, Nat.le_succ_of_le h.2.1, Nat.le_succ_of_le h.2.2.1, by show (s.W.map _).length ≤ _; rw [List.length_map]; exact Nat.le_succ_of_le h.2.2.2⟩
  · exact h.up (Nat.le_succ _)
set_option maxRecDepth 100000 in
set_option maxHeartbeats 1000000 in
theorem spoil_none (w : World) :
    Calls Try.prog 33 #[.slice none 0 0] w fun e w' => e = .returned (.tuple #[]) ∧ w = w' := by
  go_enter Try.func33, Try.ntmps33
  go_wp2
  go_loopw [10] (fun i wr => i = .int .i64 0 ∧ w = wr) (fun i _ => 0)
  case atStart => exact ⟨rfl, rfl⟩
  case round =>
    obtain ⟨rfl, rfl⟩ := hrel
    go_wp2
    go_end0
    exact ⟨rfl, rfl⟩
/-- Spoil of a row that is whole. -/
theorem spoil_whole (w : World) (base : Nat) (v : Value) (l : List Nat) (h : WholeB w base v l) :
    Calls Try.prog 33 #[v] w fun e w' => e = .returned (.tuple #[]) ∧ Kept (fun k => v.ownBlock = some k) w w' := by
  rcases h with ⟨rfl, rfl⟩ | ⟨g, X, rfl, hb, hr, ht, hl, hm⟩
  · refine (spoil_none w).mono ?_
    rintro e w' ⟨rfl, rfl⟩
    exact ⟨rfl, Kept.refl _ _⟩
  · refine (spoil_row w g X.length l.length (u8s X) hr (fun u hu => ?_) (by show _ = _; simp) (by unfold maxLen at hm; omega) hl).mono ?_
    · obtain ⟨x, -, rfl⟩ := List.mem_map.1 hu
      exact ⟨_, rfl⟩
    · rintro e w' ⟨rfl, hk⟩
      exact ⟨rfl, hk.mono (fun k _ e => by rw [e]; rfl)⟩

end Go.Proofs.Ytjmeneddhalodaa
