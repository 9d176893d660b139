/- FieldTakes: the walk of the law. -/
import Derived.Test.YtdfgceplgcblkaaFld4
namespace Go.Proofs.Ytdfgceplgcblkaa
set_option linter.unusedVariables false
set_option linter.unusedSimpArgs false
open Go.RowKit Dg

theorem takeN_len (l : List Nat) (ws : List Int) : ((takeN l ws).getD []).length ≤ ws.length := by
  induction ws generalizing l with
  | nil => simp [takeN]
  | cons x ws ih =>
    simp only [takeN]
    split
    · have := ih (l.drop x.toNat)
      cases h : takeN (l.drop x.toNat) ws with
      | none => simp
      | some r => rw [h] at this; simpa using this
    · simp
theorem Took.any {w w' : World} {T : Option (List Int)} {e : Ending} (h : Took w w' T e) (q : Bool) (ln : List Int) (hq : T.isSome = q) (hl : T.getD [] = ln) : ∃ va vc, e = .returned (.tuple #[.slice va ln.length vc, .bool q]) ∧ IntsAt w' va ln ∧ (∀ x, va = some x → x.block < w'.heap.size) ∧ Below w.heap.size w w' := by
  obtain ⟨v, rfl, ho, hb⟩ := h
  rw [hl] at ho
  obtain ⟨va, vc, rfl, hva, hor⟩ := ho.slice
  refine ⟨va, vc, by rw [hq], hva, fun x hx => ?_, hb⟩
  rcases hor with ⟨rfl, _⟩ | ⟨g, rfl, _, hg⟩
  · cases hx
  · cases hx; exact hg

/-- A row of bytes: where it lies, its room, its bytes. -/
abbrev RowD := (Option Addr × Nat) × List Nat
def rowVals (R : List RowD) : List Value := R.map fun p => .slice p.1.1 p.2.length p.1.2
@[simp] theorem length_rowVals (R : List RowD) : (rowVals R).length = R.length := by simp [rowVals]
theorem Try.infoB : (Try.prog.info? 23).map (fun i => (i.zero, i.size, i.bytes)) = some (some (.slice none 0 0), 1, 24) := by kernel_rfl
/-- What is known of a row that came in, and of its cut. -/
def RowP (W : World) (a : Option Addr) (r : Nat) (p : RowD) : Prop :=
  ∃ b off ln, a = some ⟨b, off, none⟩ ∧ W.cell? ⟨b, off + r, none⟩ = some (.slice p.1.1 ln p.1.2) ∧ min ln 40 = p.2.length ∧ Bs W p.1.1 p.1.2 p.2 ∧ ln ≤ p.1.2 ∧ p.1.2 ≤ maxLen ∧ (p.1.1 = none → ln = 0 ∧ p.1.2 = 0)
theorem rows_list {W : World} {a : Option Addr} {len : Nat} {A : Nat → Option Addr} {L C : Nat → Nat} {Z : Nat → List Int} (h : RowsAt W a len A L C Z) (n : Nat) (hn : n ≤ len) :
    ∃ R : List RowD, R.length = n ∧ ∀ r p, R[r]? = some p → RowP W a r p := by
  induction n with
  | zero => exact ⟨[], rfl, fun r p hp => by simp at hp⟩
  | succ n ih =>
    obtain ⟨R, hR, hp⟩ := ih (by omega)
    obtain ⟨b, off, ha, _, hc, hr⟩ := h n (by omega)
    obtain ⟨l, hll, _, hbs, h1, h2, h3⟩ := Bs.of_row (n := 40) hr
    refine ⟨R ++ [((A n, C n), l)], by simp [hR], fun r p hrp => ?_⟩
    by_cases hrn : r < n
    · rw [List.getElem?_append_left (by omega)] at hrp
      exact hp r p hrp
    · rw [List.getElem?_append_right (by omega)] at hrp
      have : r - R.length = 0 := by
        have := (List.getElem?_eq_some_iff.1 hrp).1
        simp at this; omega
      rw [this] at hrp
      simp at hrp
      subst hrp
      have e : r = n := by omega
      subst e
      exact ⟨b, off, L r, ha, hc, hll.symm, hbs, h1, h2, h3⟩

/-- Rows of one's own, and bytes of one's own, apart. -/
structure FT (W wr : World) (rv av : Value) (rr : List RowD) (n : Nat) (la : List Nat) : Prop where
  r : wr.ownsRow W.heap.size 23 1 rv n (rowVals rr)
  a : OwnBytes wr W.heap.size av la
  ra : ∀ k, rv.ownBlock = some k → av.ownBlock ≠ some k
  bel : Below W.heap.size W wr

theorem FT.cell {W wr : World} {g n c : Nat} {av : Value} {rr : List RowD} {la : List Nat} (h : FT W wr (.slice (some ⟨g, 0, none⟩) n c) av rr n la) (j : Nat) (p : RowD) (hp : rr[j]? = some p) :
    wr.cell? ⟨g, j, none⟩ = some (.slice p.1.1 p.2.length p.1.2) := by
  have hl : rr.length = n := by have := h.r.1; simpa using this
  have hj : j < rr.length := (List.getElem?_eq_some_iff.1 hp).1
  rcases h.r.2 with ⟨e1, _⟩ | ⟨g', cap', cur, hv, hgb, hh, hncap, _, hcs, htake⟩
  · cases e1
  · cases hv
    have e : (rowVals rr)[j]? = some (.slice p.1.1 p.2.length p.1.2) := by simp [rowVals, hp]
    rw [← htake, List.getElem?_take, if_pos (by omega)] at e
    simp only [World.cell?, hh]
    simpa using e

theorem wpList_append_row {P : Program} (W w0 : World) {ops : Array Oper} {rest : List Oper} {o : Oper} {a : Act} {Q : Exit → Act → World → Prop}
    (hgd : o.guard = none) (s x : Operand) (t : TypeId) (ho : o.op = .call { callee := .builtin .append, args := #[s, x], argTypes := #[t, t] })
    (i : TypeInfo) (ht : P.underlying t = some (.slice 23)) (hi : P.info? 23 = some i) (hz : i.zero = some (.slice none 0 0)) (hsize : i.size = 1) (hby : i.bytes = 24)
    (rv av : Value) (rr : List RowD) (n : Nat) (la : List Nat) (hs : a.eval s = rv) (hf : FT W w0 rv av rr n la) (pa : Option Addr) (pc : Nat) (pl : List Nat) (hx : a.eval x = .slice (some ⟨w0.heap.size, 0, none⟩) 1 1)
    (hl : n ≤ 1000000)
    (h : ∀ g cap w', Hid (FT W w' (.slice (some ⟨g, 0, none⟩) (n + 1) cap) av (rr ++ [((pa, pc), pl)]) (n + 1) la) → wpList P ops Q rest (a.put o.dst (.slice (some ⟨g, 0, none⟩) (n + 1) cap)) w') : wpList P ops Q (o :: rest) a (w0.alloc (.cells #[.slice pa pl.length pc] 23)) := by
  refine wpList_append_mine _ hgd s x t ho W.heap.size 23 i (.slice none 0 0) 1 24 ht hi hz hsize hby rfl (by decide) rv n (rowVals rr) hs (World.ownsRow.alloc hf.r _) ⟨w0.heap.size, 0, none⟩ 1 1 [.slice pa pl.length pc] hx rfl ?c1 ?c2 (by decide) ?b1 ?b2 ?b3 ?_
  case c1 => intro j u hj; match j, hj with | 0, hj => simp at hj; subst hj; simp [Addr.add]
  case c2 => intro u hu; simp at hu; subst hu; rfl
  case b1 => unfold maxLen; omega
  case b2 => omega
  case b3 => have := hf.bel.size; simp; omega
  intro g cap w' H1 HG HN
  have hk : Kept (fun k => rv.ownBlock = some k) w0 w' := (Kept.alloc _ w0 _).trans (Kept.grown HG.out)
  refine h g cap w' ⟨?_, ownsRow_other hf.a hk (fun k hk e => hf.ra k e hk), fun k hk' e => ?_, hk.below_of hf.bel (fun k hk => (World.ownsRow.lt hf.r k hk).1) hf.bel.size⟩
  · have := H1.out
    simpa [rowVals] using this
  · simp [Value.ownBlock] at hk'
    subst hk'
    rcases HN.out with h2 | h2
    · exact hf.ra _ h2 e
    · simp at h2
      have := (World.ownsRow.lt hf.a _ e).2
      omega
theorem FT.rows {W wr : World} {rv av : Value} {R : List RowD} {la : List Nat} (h : FT W wr rv av R R.length la) (hB : ∀ (r : Nat) (p : RowD), R[r]? = some p → Bs wr p.1.1 p.1.2 p.2) : ∃ sa sc, rv = .slice sa R.length sc ∧ RowsOf wr sa R := by
  rcases h.r.2 with ⟨rfl, hn⟩ | ⟨g', cap', cur, hv, hgb, hh, hncap, _, hcs, htake⟩
  · have : R = [] := List.eq_nil_of_length_eq_zero hn
    subst this
    exact ⟨none, 0, rfl, fun r p hp => by simp at hp⟩
  · subst hv
    refine ⟨_, cap', rfl, fun r p hp => ⟨g', 0, rfl, ?_, hB r p hp⟩⟩
    rw [Nat.zero_add]
    exact h.cell r p hp
theorem Bs.drewN {w : World} {a : Option Addr} {cap : Nat} {l : List Nat} (h : Bs w a cap l) (n : Nat) : Bs (w.drewN n) a cap l := ⟨h.at_.drewN n, h.le, h.nil⟩
theorem RowsOf.drewN {w : World} {a : Option Addr} {R : List RowD} (h : RowsOf w a R) (n : Nat) : RowsOf (w.drewN n) a R := by
  intro r p hp
  obtain ⟨b, off, e, c, bs⟩ := h r p hp
  exact ⟨b, off, e, c, bs.drewN n⟩
theorem joined_bound (R : List RowD) (h : ∀ (r : Nat) (p : RowD), R[r]? = some p → p.2.length ≤ 40) : (joined R).length ≤ 40 * R.length := by
  induction R with
  | nil => simp [joined]
  | cons p R ih =>
    have h1 := h 0 p rfl
    have h2 := ih (fun r q hq => h (r + 1) q (by simpa using hq))
    have e : joined (p :: R) = p.2 ++ joined R := by simp [joined]
    rw [e]; simp; omega

set_option maxRecDepth 100000 in
set_option maxHeartbeats 8000000 in
theorem ftakes_any (W : World) (a : Option Addr) (len cap : Nat) (zb : List Int) (wa : Option Addr) (wlen wcap : Nat) (zw : List Int) (ra : Option Addr) (rlen rcap : Nat)
    (hr : IsRow .u8 W a len cap zb) (hrw : IsRow .i64 W wa wlen wcap zw) (A : Nat → Option Addr) (L C : Nat → Nat) (Z : Nat → List Int) (hrm : rlen ≤ maxLen) (hrr : RowsAt W ra rlen A L C Z) :
    Calls Try.prog 5 #[.slice a len cap, .slice wa wlen wcap, .slice ra rlen rcap] W fun e W' => e = .returned (.bool true) ∧ Below W.heap.size W W' := by
  obtain ⟨i0, hi, hz0, hz1, hz2⟩ := info_parts Try.infoB
  obtain ⟨l, hll, h256, hbs, hc1, hc2, hc3⟩ := Bs.of_row (n := 60) hr
  obtain ⟨vs, hvl, hvI, hvat, hvle, hvm, hvnone, hvblk⟩ := hrw.ints
  obtain ⟨us, hus⟩ : ∃ us, us = vs.take 12 := ⟨_, rfl⟩
  have hul : us.length = min wlen 12 := by rw [hus]; simp; omega
  have HUL : Hid (min wlen 12 = us.length) := hul.symm
  have hu12 : us.length ≤ 12 := by omega
  have HUA : Hid (IntsAt W wa us) := by rw [hus]; exact hvat.take 12
  have HUI : Hid (∀ x ∈ us, I64 x) := by rw [hus]; exact fun x hx => hvI x (List.mem_of_mem_take hx)
  have HLL : Hid (min len 60 = l.length) := hll.symm
  have hl60 : l.length ≤ 60 := by omega
  have HS : Hid (Bs W a cap l) := hbs
  have H256 : Hid (∀ x ∈ l, x < 256) := h256
  have HC3 : Hid (a = none → len = 0 ∧ cap = 0) := hc3
  have HW3 : Hid (wa = none → wlen = 0 ∧ wcap = 0) := hvnone
  have HUB : Hid (us ≠ [] → ∀ x, wa = some x → x.block < W.heap.size) := fun hne x hx => hvblk x hx (by
    have := List.length_pos_iff.2 hne
    omega)
  obtain ⟨T, hT⟩ : ∃ T, T = takeN l us := ⟨_, rfl⟩
  obtain ⟨q, hq⟩ : ∃ q, T.isSome = q := ⟨_, rfl⟩
  obtain ⟨ln, hln⟩ : ∃ ln, T.getD [] = ln := ⟨_, rfl⟩
  have hln12 : ln.length ≤ 12 := by
    have := takeN_len l us
    rw [← hT, hln] at this
    omega
  have HT : Hid (T = takeN l us) := hT
  have HQ : Hid (T.isSome = q) := hq
  have HLN : Hid (T.getD [] = ln) := hln
  obtain ⟨R, hRl, hRP⟩ := rows_list hrr (min rlen 6) (by omega)
  have HRP : Hid (∀ r p, R[r]? = some p → RowP W ra r p) := hRP
  have hR6 : R.length ≤ 6 ∧ R.length ≤ rlen ∧ (rlen ≤ R.length ∨ 6 ≤ R.length) := by omega
  obtain ⟨hR6, hRr, hRor⟩ := hR6
  have HJB : Hid (∀ j, (joined (R.take j)).length ≤ 240) := by
    intro j
    have h1 := joined_bound (R.take j) (fun r p hp => by
      rw [List.getElem?_take] at hp
      split at hp
      · obtain ⟨_, _, ln0, _, _, e, _⟩ := hRP r p hp
        omega
      · cases hp)
    have h2 : (R.take j).length ≤ 6 := by simp; omega
    omega
  unfold maxLen at hrm
  have hvle' : wlen ≤ wcap := hvle
  have hvm' : wcap ≤ maxLen := hvm
  clear hus hul hll h256 hbs hc3 hvnone hvblk hvI hvat hvl hT hq hln hRl hRP hrr hr hrw hvle hvm
  go_enter Try.func5, Try.ntmps5
  go_wp2_with fail
  refine (cut_any W a len cap 60 (by decide) hc1 hc2 HC3.out).mono ?_
  rintro e w0 ⟨rfl, rfl⟩
  rw [HLL.out]
  go_wp2_with fail
  refine (cutInt_any W wa wlen wcap 12 (by decide) hvle' hvm' HW3.out).mono ?_
  rintro e w0 ⟨rfl, rfl⟩
  rw [HUL.out]
  go_wp2_with fail
  refine (lend_any W _ l HS.out.at_ (by omega)).mono ?_
  rintro e w1 ⟨rfl, hrow1, hb1⟩
  obtain ⟨g, hg⟩ : ∃ g, g = W.heap.size := ⟨_, rfl⟩
  rw [← hg] at hrow1 ⊢
  have HG : Hid (g = W.heap.size) := hg
  have HR1 : Hid (RowIs w1 g (u8s (l ++ [85, 85, 85]))) := hrow1
  have HB1 : Hid (Below W.heap.size W w1) := hb1
  have HX1 : Hid (Bs w1 (some ⟨g, 0, none⟩) (l.length + 3) l) := ⟨SlAt.of_row hrow1, by omega, fun e => by cases e⟩
  have HS1 : Hid (Bs w1 a cap l) := HS.out.below hb1
  have HU1 : Hid (IntsAt w1 wa us) := by
    by_cases hne : us = []
    · show IntsAt w1 wa us; rw [hne]; exact IntsAt.nil _ _
    · exact HUA.out.below hb1 (HUB.out hne)
  have hs1 : W.heap.size ≤ w1.heap.size := hb1.size
  have HUB1 : Hid (us ≠ [] → ∀ x, wa = some x → x.block < w1.heap.size) := fun hne x hx => by have := HUB.out hne x hx; omega
  clear hrow1 hb1 hg HUA HUB
  go_wp2_with fail
  refine (ftake_any w1 (some ⟨g, 0, none⟩) wa (l.length + 3) wcap l us HX1.out HU1.out (by omega) (by omega) H256.out HUI.out T HT.out).mono ?_
  rintro e w2 htk
  obtain ⟨va, vc, rfl, hva, hvlt, hb2⟩ := htk.any q ln HQ.out HLN.out
  have HV2 : Hid (IntsAt w2 va ln) := hva
  have HVL2 : Hid (∀ x, va = some x → x.block < w2.heap.size) := hvlt
  have HB2 : Hid (Below W.heap.size W w2) := HB1.out.trans (hb2.mono hs1)
  have HR2 : Hid (RowIs w2 g (u8s (l ++ [85, 85, 85]))) := HR1.out.below hb2
  have HS2 : Hid (Bs w2 a cap l) := HS1.out.below hb2
  have HU2 : Hid (IntsAt w2 wa us) := by
    by_cases hne : us = []
    · show IntsAt w2 wa us; rw [hne]; exact IntsAt.nil _ _
    · exact HU1.out.below hb2 (HUB1.out hne)
  have hs2 : W.heap.size ≤ w2.heap.size := HB2.out.size
  clear htk hva hvlt hb2 HX1 HU1 HS1 HR1 HB1 HUB1
  go_wp2_with fail
  refine (rtakeN_any w2 a wa cap wcap l us HS2.out HU2.out (by omega) (by omega) H256.out HUI.out T HT.out).mono ?_
  rintro e w3 htk
  obtain ⟨ma, mc, rfl, hma, hmlt, hb3⟩ := htk.any q ln HQ.out HLN.out
  have HM3 : Hid (IntsAt w3 ma ln) := hma
  have HML3 : Hid (∀ x, ma = some x → x.block < w3.heap.size) := hmlt
  have HV3 : Hid (IntsAt w3 va ln) := HV2.out.below hb3 HVL2.out
  have HVL3 : Hid (∀ x, va = some x → x.block < w3.heap.size) := fun x hx => Nat.lt_of_lt_of_le (HVL2.out x hx) hb3.size
  have HB3 : Hid (Below W.heap.size W w3) := HB2.out.trans (hb3.mono hs2)
  have HR3 : Hid (RowIs w3 g (u8s (l ++ [85, 85, 85]))) := HR2.out.below hb3
  have HS3 : Hid (Bs w3 a cap l) := HS2.out.below hb3
  have hs3 : W.heap.size ≤ w3.heap.size := HB3.out.size
  clear htk hma hmlt hb3 HV2 HVL2 HB2 HR2 HS2 HU2 HUI HT HQ HLN H256
  go_wp2_with fail
  go_loopw [12, 13, 14] (fun rv av i wr => ∃ j : Nat, i = .int .i64 (j : Int) ∧ j ≤ R.length ∧ Hid (FT w3 wr rv av (R.take j) j (joined (R.take j)))) (fun _ _ i _ => R.length - (intOf i).toNat)
  case atStart => exact ⟨0, rfl, Nat.zero_le _, ⟨World.ownsRow_nil _ _ _ _, World.ownsRow_nil _ _ _ _, (fun k hk => by cases hk), Below.refl _ _⟩⟩
  case round =>
    obtain ⟨j, rfl, hj, hf⟩ := hrel
    by_cases hjn : j < R.length
    · have hj6 : j < 6 := by omega
      have hjr : j < rlen := by omega
      obtain ⟨⟨⟨pa, pc⟩, pl⟩, hp⟩ : ∃ p, R[j]? = some p := ⟨R[j], by simp [hjn]⟩
      obtain ⟨b, off, pn, rfl, hc, hpl, hpb, hp1, hp2, hp3⟩ := HRP.out j _ hp
      have hBW : Below W.heap.size W wr := HB3.out.trans (hf.out.bel.mono hs3)
      have hcell : wr.cell? ⟨b, off + j, none⟩ = some (.slice pa pn pc) := by
        rw [hBW.cell (p := ⟨b, off + j, none⟩) (World.block_lt_of_cell? W _ hc)]
        exact hc
      have HPB : Hid (Bs W pa pc pl) := hpb
      have HPL : Hid (min pn 40 = pl.length) := hpl
      have HP3 : Hid (pa = none → pn = 0 ∧ pc = 0) := hp3
      have hp1' : pn ≤ pc := hp1
      have hp2' : pc ≤ maxLen := hp2
      have hpl40 : pl.length ≤ 40 := by have : min pn 40 = pl.length := hpl; omega
      have HNR : Hid (R.take (j + 1) = R.take j ++ [((pa, pc), pl)]) := by show _ = _; rw [List.take_add_one, hp]; rfl
      have HNJ : Hid (joined (R.take (j + 1)) = joined (R.take j) ++ pl) := joined_take R j _ hp
      have hjb := HJB.out j
      clear hc hpl hp3 hp1 hp2 hp hpb hBW
      go_wp2_with fail
      refine (cut_any wr pa pn pc 40 (by decide) hp1' hp2' HP3.out).mono ?_
      rintro e w4 ⟨rfl, rfl⟩
      rw [HPL.out]
      go_wp2_with (at_builtin; go_must (refine wpList_append_row w3 _ rfl (.tmp 43) (.tmp 49) 34 rfl i0 Try.underlying34 hi hz0 hz1 hz2 _ _ (R.take j) j (joined (R.take j)) rfl hf.out pa pc pl rfl (by omega) ?_))
      intro g5 c5 w5 HF5
      have hcell5 : w5.cell? ⟨g5, j, none⟩ = some (.slice pa pl.length pc) := HF5.out.cell j ((pa, pc), pl) (by
        rw [List.getElem?_append_right (by simp; omega)]
        simp [Nat.min_eq_left (Nat.le_of_lt hjn)])
      have HPB5 : Hid (Bs w5 pa pc pl) := HPB.out.below (HB3.out.trans (HF5.out.bel.mono hs3))
      clear hf HPB
      go_wp2_with (at_builtin; go_must (refine wpList_append_bytes _ rfl (.tmp 51) (.tmp 55) rfl w3.heap.size _ _ rfl HF5.out.a pa pc pl rfl HPB5.out (by omega) HF5.out.bel.size ?_))
      intro av6 w6 h1 h2 h3
      rw [← HNJ.out] at h1
      have HF6 : Hid (FT w3 w6 (.slice (some ⟨g5, 0, none⟩) (j + 1) c5) av6 (R.take (j + 1)) (j + 1) (joined (R.take (j + 1)))) := by
        refine ⟨?_, h1.out, fun k hk e => ?_, h2.out.below_of HF5.out.bel (fun k hk => (World.ownsRow.lt HF5.out.a k hk).1) HF5.out.bel.size⟩
        · rw [HNR.out]
          exact ownsRow_other HF5.out.r h2.out (fun k hk e => HF5.out.ra k hk e)
        · rcases h3.out k e with h4 | h4
          · exact HF5.out.ra k hk h4
          · have := (World.ownsRow.lt HF5.out.r k hk).2; omega
      clear h1 h2 h3 HF5 HPB5
      go_wp2_with fail
      exact ⟨⟨j + 1, by go_num, by omega, HF6⟩, by (simp [intOf]) <;> omega⟩
    · have ej : j = R.length := by omega
      subst ej
      rw [List.take_length] at hf
      have hjb := HJB.out R.length
      rw [List.take_length] at hjb
      have hcc : (R.length < rlen ∧ decide ((R.length : Int) < 6) = false) ∨ rlen ≤ R.length := by
        by_cases h : rlen ≤ R.length
        · exact .inr h
        · exact .inl ⟨by omega, decide_eq_false (by omega)⟩
      have hBW : Below W.heap.size W wr := HB3.out.trans (hf.out.bel.mono hs3)
      obtain ⟨sa, sc, rfl, hrows⟩ := hf.out.rows (fun r p hp => by
        obtain ⟨_, _, _, _, _, _, hpb, _⟩ := HRP.out r p hp
        exact hpb.below hBW)
      obtain ⟨la, hla⟩ : ∃ la, la = joined R := ⟨_, rfl⟩
      have HLA : Hid (joined R = la) := hla.symm
      rw [← hla] at hf hjb
      obtain ⟨aa, ac, rfl, hab⟩ := OwnBytes.bs hf.out.a
      have HRW : Hid (RowsOf wr sa R) := hrows
      have HAB : Hid (Bs wr aa ac la) := hab
      have HB4 : Hid (Below W.heap.size W wr) := hBW
      have HV4 : Hid (IntsAt wr va ln) := HV3.out.below hf.out.bel HVL3.out
      have HM4 : Hid (IntsAt wr ma ln) := HM3.out.below hf.out.bel HML3.out
      have HR4 : Hid (RowIs wr g (u8s (l ++ [85, 85, 85]))) := HR3.out.below hf.out.bel
      have HS4 : Hid (Bs wr a cap l) := HS3.out.below hf.out.bel
      have hs4 : W.heap.size ≤ wr.heap.size := hBW.size
      clear hla hrows hab hBW hf HV3 HVL3 HM3 HML3 HR3 HS3 HB3 hRor HRP HJB hs3 hrm
      rcases hcc with ⟨hc, hc'⟩ | hc
      all_goals
        go_wp2_with fail
        refine (sameInt_any wr va ma vc mc ln HV4.out HM4.out (by omega)).mono ?_
        rintro e w5 ⟨rfl, n5, hw5⟩
        subst hw5
        go_wp2_with fail
        refine (fjoin_any _ sa sc R (HRW.out.drewN n5) (by omega) (by rw [HLA.out]; omega)).mono ?_
        rw [HLA.out]
        rintro e w6 ⟨jv, rfl, ho6, hb6⟩
        obtain ⟨ja, jc, rfl, hj6⟩ := OwnBytes.bs ho6
        have HJ6 : Hid (Bs w6 ja jc la) := hj6
        have HA6 : Hid (Bs w6 aa ac la) := (HAB.out.drewN n5).below hb6
        have HB6 : Hid (Below W.heap.size W w6) := (below_drewN HB4.out n5).trans (hb6.mono (by show _ ≤ wr.heap.size; omega))
        have HR6 : Hid (RowIs w6 g (u8s (l ++ [85, 85, 85]))) := RowIs.below (w := wr.drewN n5) HR4.out hb6
        have HS6 : Hid (Bs w6 a cap l) := (HS4.out.drewN n5).below hb6
        clear ho6 hb6 hj6
        go_wp2_with fail
        refine (same_any w6 _ _ la HJ6.out.at_ HA6.out.at_ (by omega)).mono ?_
        rintro e w7 ⟨rfl, n7, rfl⟩
        go_wp2_with fail
        refine (intact_any _ g _ l (show RowIs (w6.drewN n7) g _ from HR6.out) (show SlAt (w6.drewN n7) _ l from HS6.out.at_) (by omega)).mono ?_
        rintro e w8 ⟨rfl, n8, rfl⟩
        go_wp2_with fail
        refine (wakes4_any _).mono ?_
        rintro e w9 ⟨rfl, hb9⟩
        have HB9 : Hid (Below W.heap.size W w9) := (below_drewN HB6.out (n7 + n8)).trans (hb9.mono (by show _ ≤ w6.heap.size; exact HB6.out.size))
        clear hb9
        go_wp2
        go_ret
        exact ⟨rfl, HB9.out⟩

end Go.Proofs.Ytdfgceplgcblkaa
