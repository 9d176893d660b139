/- The texts SuPk, SuUn, one behind the other. -/
import Derived.Test.YtdcnbakmmkbodaaPart07
import Derived.Deep.RegionWith
import Derived.BigQuiet

/- SuperPacks: the walk of the law, over the bundle. -/
namespace Go.Proofs.Ytdcnbakmmkbodaa
set_option linter.unusedVariables false
set_option linter.unusedSimpArgs false
open Go.RowKit Dg Cr

theorem own_form {w : World} {base : Nat} {v : Value} {l : List Nat} (h : OwnBytes w base v l) (hne : l ≠ []) : ∃ g c, v = .slice (some ⟨g, 0, none⟩) l.length c ∧ base ≤ g := by
  rcases h.2 with ⟨e1, e2⟩ | ⟨g, cap, cur, rfl, hb, hh, hn, _, hcs, htake⟩
  · exact absurd (List.eq_nil_of_length_eq_zero e2) hne
  · exact ⟨g, cap, rfl, hb⟩
theorem bs_own {w : World} {base g n c : Nat} {l : List Nat} (h : OwnBytes w base (.slice (some ⟨g, 0, none⟩) n c) l) : Bs w (some ⟨g, 0, none⟩) c l := by
  obtain ⟨a, cap, e, hb⟩ := h.bs
  cases e
  exact hb
set_option maxRecDepth 100000 in
set_option maxHeartbeats 1000000 in
theorem resum_any (w : World) (a : Option Addr) (cap : Nat) (l : List Nat) (hB : Bs w a cap l) (hl : l.length = 128) (h256 : ∀ x ∈ l, x < 256) :
    Calls Try.prog 17 #[.slice a 128 cap] w fun e w' => ∃ g c L, e = .returned (.slice (some ⟨g, 0, none⟩) 128 c) ∧ Bs w' (some ⟨g, 0, none⟩) c L ∧ L.length = 128 ∧ (∀ x ∈ L, x < 256) ∧ Below w.heap.size w w' := by
  have hcap := hB.le
  have hsl : ∀ W, (Instr.sliceAt 26 (.slice a 128 cap) none (some (.int .i64 124)) none).run Try.prog W = .ok (.slice a 124 cap) W := fun W => slice_hi a 128 cap 124 (by omega) W
  have ht : (l.take 124).length = 124 := by simp [hl]
  have hb : Bs w a cap (l.take 124) := ⟨by have e := hB.hi 124 (by omega); rw [ht]; exact e, by rw [ht]; omega, hB.nil⟩
  obtain ⟨L, hL⟩ : ∃ L, L = l.take 124 ++ bytes4 (sumN (l.take 124)) := ⟨_, rfl⟩
  have hLl : L.length = 128 := by rw [hL, List.length_append, ht, length_bytes4]
  have hL256 : ∀ x ∈ L, x < 256 := fun x hx => by
    rw [hL] at hx
    rcases List.mem_append.1 hx with h | h
    · exact h256 x (List.mem_of_mem_take h)
    · exact bytes4_lt _ x h
  have HS := hid_of (rsummed_any w a cap 0 (l.take 124) hb (by rw [ht]; decide) (by decide) (fun x hx => h256 x (List.mem_of_mem_take hx)) (l.take 124) L (by simp) hL)
  rw [ht, hLl] at HS
  have HL := hid_of (And.intro hLl hL256)
  clear hB hb h256 hL hLl hL256 hcap ht hl
  go_enter Try.func17, Try.ntmps17
  go_wp2_with fail
  refine HS.out.mono ?_
  rintro e w1 ⟨g, c, rfl, ho, hb1⟩
  have HO := hid_of (bs_own ho)
  have HB1 := hid_of hb1
  clear ho hb1
  go_wp2_with fail
  go_ret
  exact ⟨g, c, L, rfl, HO.out, HL.out.1, HL.out.2, HB1.out⟩

/-- What holds between the last calls: the superblock's variable stays. -/
structure PkC (W : World) (bx : Nat) (x1 x2 x3 x4 : Int) (wx : World) : Prop where
  bel : Below W.heap.size W wx
  c0 : wx.cell? ⟨bx, 0, none⟩ = some (.int .i64 x1)
  c1 : wx.cell? ⟨bx, 1, none⟩ = some (.int .i64 x2)
  c2 : wx.cell? ⟨bx, 2, none⟩ = some (.int .i64 x3)
  c3 : wx.cell? ⟨bx, 3, none⟩ = some (.int .i64 x4)
  lt : bx < wx.heap.size
theorem PkC.next {W w w' : World} {bx : Nat} {x1 x2 x3 x4 : Int} (h : PkC W bx x1 x2 x3 x4 w) (hb : Below w.heap.size w w') : PkC W bx x1 x2 x3 x4 w' :=
  ⟨h.bel.trans (hb.mono h.bel.size), by rw [hb.cell (p := ⟨bx, 0, none⟩) h.lt]; exact h.c0, by rw [hb.cell (p := ⟨bx, 1, none⟩) h.lt]; exact h.c1, by rw [hb.cell (p := ⟨bx, 2, none⟩) h.lt]; exact h.c2, by rw [hb.cell (p := ⟨bx, 3, none⟩) h.lt]; exact h.c3, Nat.lt_of_lt_of_le h.lt hb.size⟩
/-- A region that draws its order, every operation quiet in a class of worlds: one walk. -/
theorem wp_region_cls {P : Program} {C : World → Prop} {id : Nat} {Q : Exit → Act → World → Prop} {a : Act} {w : World} {l : List Oper} (hm : P.follows .mixedOrders = true) (hB : Region.lexB .any l.toArray = true) (hC : C w.drew)
    (h : wpQuiet P l.toArray C (fun a' => ∀ w', C w' → Q .normal a' w') l a) : (Code.region id l.toArray true).wp P Q a w :=
  wp_region_quiet hm hB hC (by simpa using h)
set_option maxRecDepth 100000 in
set_option maxHeartbeats 16000000 in
theorem supk_any {Ok : World → Prop} (S : Sup Ok) (CH : SuChoose Ok) (NX : SuNext) (W : World) (hok : Ok W) (s : Su) (c0 : Int) (small : Bool) (a : Option Addr) (len cap : Nat) (zs : List Int) (at0 cb : Int) (sum : Bool) (hs : Su64 s) (hc : I64 c0) (hr : IsRow .u8 W a len cap zs) (hat : I64 at0) (hcb : 0 ≤ cb ∧ cb < 256) :
    Calls Try.prog 4 #[suV s, .int .i64 c0, .bool small, .slice a len cap, .int .i64 at0, .int .u8 cb, .bool sum] W fun e W' => e = .returned (.bool true) ∧ Below W.heap.size W W' := by
  obtain ⟨lb, hlb, hb256, hbB, hbc, hbm, hb0⟩ := Bs.of_row (n := 140) hr
  obtain ⟨i, hi⟩ : ∃ i : Nat, (i : Int) = at0 % 128 := ⟨(at0 % 128).toNat, by omega⟩
  obtain ⟨p, hp⟩ : ∃ p : Nat, (p : Int) = c0 % 40 := ⟨(c0 % 40).toNat, by omega⟩
  have hi128 : i < 128 := by omega
  have hp40 : p ≤ 39 := by omega
  have HWI : Hid (∀ w, Calls Try.prog 9 #[.int .i64 at0, .int .i64 128] w fun e w' => e = .returned (.int .i64 (i : Int)) ∧ w = w') := fun w => by rw [hi]; exact within_any at0 128 w hat.1 hat.2 (by decide) (by decide)
  have HWP : Hid (∀ w, Calls Try.prog 9 #[.int .i64 c0, .int .i64 40] w fun e w' => e = .returned (.int .i64 (p : Int)) ∧ w = w') := fun w => by rw [hp]; exact within_any c0 40 w hc.1 hc.2 (by decide) (by decide)
  have HSM : Hid (∀ w, Calls Try.prog 8 #[suV s] w fun e w' => e = .returned (suV (smallSu s)) ∧ Below w.heap.size w w') := fun w => small_any w s hs
  have HOK : Hid (∀ w, Below W.heap.size W w → Ok w) := fun w hw => S.okK hok ⟨hw.os, hw.tape, hw.output, hw.size, fun k hk _ => hw.block k hk⟩
  have HWK : Hid (∀ w, Below W.heap.size W w → Calls Try.prog 13 #[] w fun e w' => e = .returned (.bool true) ∧ Below w.heap.size w w') := fun w hw => wakes14_any S CH w (HOK.out w hw)
  have HCUT : Hid (∀ w, Below W.heap.size W w → Calls Try.prog 18 #[.slice a len cap, .int .i64 140] w fun e w' => e = .returned (.slice a lb.length cap) ∧ RowG w' (.slice a lb.length cap) lb ∧ w = w') := fun w hw => by
    rw [hlb]
    refine (cut_any w a len cap 140 (by decide) hbc hbm hb0).mono ?_
    rintro e w' ⟨rfl, rfl⟩
    exact ⟨rfl, ⟨a, cap, by rw [hlb], hbB.below hw, by omega, hb256⟩, rfl⟩
  have HUN : Hid (∀ (w : World) (v : Value) (l : List Nat), Below W.heap.size W w → RowG w v l → ∃ u1 u2 u3 u4 uc uo, Hid (Calls Try.prog 19 #[v] w fun e w' => e = .returned (.tuple #[.agg #[.int .i64 u1, .int .i64 u2, .int .i64 u3, .int .i64 u4], .int .i64 uc, .bool uo]) ∧ Below w.heap.size w w') ∧ Hid (∀ w5, Below w.heap.size w w5 → Calls Try.prog 20 #[v] w5 fun e w' => e = .returned (.tuple #[.agg #[.int .i64 u1, .int .i64 u2, .int .i64 u3, .int .i64 u4], .int .i64 uc, .bool uo]) ∧ Below w5.heap.size w5 w')) := fun w v l hw ⟨a1, c1, e1, b1, n1, f1⟩ => by
    subst e1
    have e1 := S.unpB w a1 _ c1 l (HOK.out w hw) b1 rfl n1 f1
    have e2 := fun w5 (hb : Below w.heap.size w w5) => runp_any w5 a1 _ c1 l (b1.below hb) rfl f1 n1 b1.le
    obtain ⟨⟨u1, u2, u3, u4⟩, uc, uo, hu⟩ : ∃ u uc uo, unpSu l = (u, uc, uo) := ⟨_, _, _, rfl⟩
    rw [hu] at e1
    simp only [hu] at e2
    exact ⟨u1, u2, u3, u4, uc, uo, e1, e2⟩
  have HS64 := hid_of hs
  have HC64 := hid_of hc
  have HCB := hid_of hcb
  have hwr1 : IntKind.i64.wrap (1 + (p : Int)) = 1 + (p : Int) := wrap_of (by omega) (by omega)
  have kq := su_equal
  have HS2 : Hid (Su64 (smallSu s)) := smallSu64 s
  obtain ⟨⟨y1, y2, y3, y4⟩, hy⟩ : ∃ y, y = smallSu s := ⟨_, rfl⟩
  rw [← hy] at HSM HS2
  obtain ⟨s1, s2, s3, s4⟩ := s
  clear hlb hb256 hbB hbc hbm hb0 hi hp hs hc hr hok hy hat hcb
  unfold suV at HSM ⊢
  simp only [] at HSM ⊢
  go_enter Try.func4, Try.ntmps4
  go_upto_if 26 with fail
  obtain ⟨w0, hw0⟩ : ∃ w0, w0 = W.alloc (.cells #[.int .i64 s1, .int .i64 s2, .int .i64 s3, .int .i64 s4] 23) := ⟨_, rfl⟩
  obtain ⟨bx, hbx⟩ : ∃ bx, bx = W.heap.size := ⟨_, rfl⟩
  have hb0 : Below W.heap.size W w0 := by rw [hw0]; exact (Below.refl _ _).alloc (Nat.le_refl _) _
  have hx0 : w0.heap[bx]? = some (.cells #[.int .i64 s1, .int .i64 s2, .int .i64 s3, .int .i64 s4] 23 (0, 0)) := by rw [hw0, hbx]; exact heap_alloc_new W _
  have HB0 := hid_of hb0
  have HX0 := hid_of hx0
  have HBX := hid_of hbx
  rw [← hw0, ← hbx]
  clear hw0 hbx hb0 hx0
  go_cut [1] from 27 to 31 (fun v wx => ∃ (x1 x2 x3 x4 c2 : Int), v = .int .i64 c2 ∧ Hid (I64 c2 ∧ Su64 ⟨x1, x2, x3, x4⟩) ∧ Hid (wx.heap[bx]? = some (.cells #[.int .i64 x1, .int .i64 x2, .int .i64 x3, .int .i64 x4] 23 (0, 0))) ∧ Hid (Below W.heap.size W wx))
  case first =>
    cases small
    · go_wp2_with fail
      go_meet
      exact ⟨s1, s2, s3, s4, c0, rfl, ⟨HC64.out, HS64.out⟩, HX0.out, HB0.out⟩
    · obtain ⟨⟨k0, k1, k2, k3⟩, -⟩ := box4 HX0.out
      go_wp2_with fail
      refine (HSM.out _).mono ?_
      rintro e w1 ⟨rfl, hb1⟩
      have hx1 : w1.heap[bx]? = some (.cells #[.int .i64 s1, .int .i64 s2, .int .i64 s3, .int .i64 s4] 23 (0, 0)) := (hb1.block bx (Array.getElem?_eq_some_iff.1 HX0.out).1).trans HX0.out
      obtain ⟨⟨z0, z1, z2, z3⟩, mf, f1, f2, f3, HST⟩ := box4 hx1
      have HB1 : Hid (Below W.heap.size W w1) := HB0.out.trans (hb1.mono HB0.out.size)
      clear hb1 hx1 k0 k1 k2 k3
      go_wp2_with fail
      refine (HWP.out _).mono ?_
      rintro e w1' ⟨rfl, rfl⟩
      go_wp2_with fail
      go_meet
      have hq := HST.out (.int .i64 y1) (.int .i64 y2) (.int .i64 y3) (.int .i64 y4)
      exact ⟨y1, y2, y3, y4, _, rfl, ⟨⟨by omega, by omega⟩, HS2.out⟩, hq.1, hq.2.below_of HB1.out (fun k e => by subst e; have := HBX.out; omega) HB1.out.size⟩
  case rest =>
    obtain ⟨x1, x2, x3, x4, c2, rfl, H64, HX, HB⟩ := hcut
    clear HSM HWP HS64 HC64 HS2 HB0 HX0 hwr1 hp40
    obtain ⟨P, hP⟩ : ∃ P, P = packSu ⟨x1, x2, x3, x4⟩ c2 := ⟨_, rfl⟩
    have HPL : Hid (P.length = 128 ∧ ∀ x ∈ P, x < 256) := ⟨by rw [hP]; exact length_packSu _ _, by rw [hP]; exact packSu_lt _ _⟩
    have HP1 := hid_of (S.packB wc ⟨x1, x2, x3, x4⟩ c2 (HOK.out wc HB.out) H64.out.2 H64.out.1)
    have HP2 : Hid (∀ w, _) := fun w => rpacksu_any w ⟨x1, x2, x3, x4⟩ c2 H64.out.2.g H64.out.2.l H64.out.2.d H64.out.2.r H64.out.1
    rw [← hP] at HP1 HP2
    clear hP
    unfold suV at HP1
    simp only [] at HP1 HP2
    obtain ⟨⟨k0, k1, k2, k3⟩, -⟩ := box4 HX.out
    go_wp2_with fail
    refine HP1.out.mono ?_
    rintro e w1 ⟨g1, kk1, rfl, ho1, hb1⟩
    have HO1 := hid_of (bs_own ho1)
    have HX1 : Hid (w1.heap[bx]? = some (.cells #[.int .i64 x1, .int .i64 x2, .int .i64 x3, .int .i64 x4] 23 (0, 0))) := (hb1.block bx (Array.getElem?_eq_some_iff.1 HX.out).1).trans HX.out
    have HB1 : Hid (Below W.heap.size W w1) := HB.out.trans (hb1.mono HB.out.size)
    clear ho1 hb1 k0 k1 k2 k3 HX HB HP1
    obtain ⟨⟨k0, k1, k2, k3⟩, -⟩ := box4 HX1.out
    go_wp2_with fail
    refine (HP2.out _).mono ?_
    rintro e w2 ⟨g2, kk2, rfl, ho2, hb2⟩
    have HO2 : Hid (Bs w2 (some ⟨g1, 0, none⟩) kk1 P ∧ Bs w2 (some ⟨g2, 0, none⟩) kk2 P) := ⟨HO1.out.below hb2, bs_own ho2⟩
    have HX2 : Hid (w2.heap[bx]? = some (.cells #[.int .i64 x1, .int .i64 x2, .int .i64 x3, .int .i64 x4] 23 (0, 0))) := (hb2.block bx (Array.getElem?_eq_some_iff.1 HX1.out).1).trans HX1.out
    have HB2 : Hid (Below W.heap.size W w2) := HB1.out.trans (hb2.mono HB1.out.size)
    clear ho2 hb2 k0 k1 k2 k3 HX1 HB1 HP2 HO1
    have hsame := same_any w2 (.slice (some ⟨g1, 0, none⟩) 128 kk1) (.slice (some ⟨g2, 0, none⟩) 128 kk2) P (by have e := HO2.out.1.at_; rw [HPL.out.1] at e; exact e) (by have e := HO2.out.2.at_; rw [HPL.out.1] at e; exact e) (by rw [HPL.out.1]; decide)
    have HSA := hid_of hsame
    clear hsame
    go_wp2_with fail
    refine HSA.out.mono ?_
    rintro e wd ⟨rfl, d, rfl⟩
    have HQ : Hid (Bs (w2.drewN d) (some ⟨g2, 0, none⟩) kk2 P) := HO2.out.2.below (below_drewN (Below.refl _ _) d)
    have HXD : Hid ((w2.drewN d).heap[bx]? = some (.cells #[.int .i64 x1, .int .i64 x2, .int .i64 x3, .int .i64 x4] 23 (0, 0))) := HX2.out
    have HBD : Hid (Below W.heap.size W (w2.drewN d)) := below_drewN HB2.out d
    obtain ⟨wd, hwd⟩ : ∃ wd, wd = w2.drewN d := ⟨_, rfl⟩
    rw [← hwd] at HQ HXD HBD ⊢
    clear hwd HSA HO2 HX2 HB2
    have hcp := copyB_any wd (.slice (some ⟨g2, 0, none⟩) 128 kk2) P (by have e := HQ.out.at_; rw [HPL.out.1] at e; exact e) (by rw [HPL.out.1]; decide) (fun n c e => by cases e)
    have HCP := hid_of hcp
    clear hcp
    go_wp2_with fail
    refine HCP.out.mono ?_
    rintro e w3 ⟨v3, rfl, ho3, hb3⟩
    obtain ⟨gx, cx, rfl, hgx⟩ := own_form ho3 (fun e => by have := HPL.out.1; rw [e] at this; cases this)
    rw [HPL.out.1] at ho3 ⊢
    obtain ⟨y, hy⟩ : ∃ y, P[i]? = some y := ⟨_, List.getElem?_eq_getElem (by rw [HPL.out.1]; exact hi128)⟩
    have ho3' : w3.ownsRow wd.heap.size 5 1 (.slice (some ⟨gx, 0, none⟩) 128 cx) 128 (u8s P) := by have e : w3.ownsRow _ _ _ _ P.length _ := ho3; rw [HPL.out.1] at e; exact e
    obtain ⟨hcl, hfz⟩ := own_cell ho3' hy
    obtain ⟨cn, hcn⟩ : ∃ cn : Nat, (cn : Int) = cb := ⟨cb.toNat, by have := HCB.out.1; omega⟩
    have hcn256 : cn < 256 := by have := HCB.out.2; omega
    have hy256 : y < 256 := HPL.out.2 y (List.mem_of_getElem? hy)
    obtain ⟨z, hz⟩ : ∃ z, z = y ^^^ cn := ⟨_, rfl⟩
    have hz256 : z < 256 := by rw [hz]; exact Nat.xor_lt_two_pow (n := 8) hy256 hcn256
    have hxor : bits BinOp.xor IntKind.u8 (y : Int) (cn : Int) = ((z : Nat) : Int) := by rw [u8_xor_nat _ _ hy256 hcn256, hz]
    have hset := own_set ho3' i z hi128
    obtain ⟨Lx, hLx⟩ : ∃ L, L = P.set i z := ⟨_, rfl⟩
    rw [← hLx] at hset
    have HLX : Hid (Lx.length = 128 ∧ ∀ x ∈ Lx, x < 256) := ⟨by rw [hLx, List.length_set]; exact HPL.out.1, fun x hx => by
      rw [hLx] at hx
      rcases List.mem_or_eq_of_mem_set hx with h | h
      · exact HPL.out.2 x h
      · rw [h]; exact hz256⟩
    obtain ⟨w4, hw4⟩ : ∃ w4, w4 = w3.setCell ⟨gx, i, none⟩ (.int .u8 (z : Int)) := ⟨_, rfl⟩
    rw [← hw4] at hset
    have HBX4 : Hid (Bs w4 (some ⟨gx, 0, none⟩) cx Lx) := Bs.ofo hset
    have HB4 : Hid (Below wd.heap.size wd w4) := by
      have hk : Kept (fun k => k = gx) w3 w4 := by rw [hw4]; exact Kept.setCell _ _ _ rfl
      exact hk.below_of hb3 (fun k e => by subst e; exact hgx) hb3.size
    subst hcn
    have hW4 := hw4
    clear ho3 ho3' hset hLx hz hy hb3 hgx HCP hw4 HCB
    go_wp2_with fail
    refine (HWI.out _).mono ?_
    rintro e w3' ⟨rfl, rfl⟩
    go_upto_if 54 with fail
    rw [← hW4]
    clear hW4 hcl hfz hxor HWI
    go_cut [17] from 55 to 56 (fun v wx => ∃ a5 c5 L5, v = .slice a5 128 c5 ∧ Hid (Bs wx a5 c5 L5 ∧ L5.length = 128 ∧ ∀ x ∈ L5, x < 256) ∧ Hid (Below wd.heap.size wd wx))
    case first =>
      cases sum
      · go_wp2_with fail
        go_meet
        exact ⟨_, _, Lx, rfl, ⟨HBX4.out, HLX.out.1, HLX.out.2⟩, HB4.out⟩
      · go_wp2_with fail
        refine (resum_any w4 _ cx Lx HBX4.out HLX.out.1 HLX.out.2).mono ?_
        rintro e w5 ⟨g5, c5, L5, rfl, hb5, hl5, h5, hbl5⟩
        have HB5 : Hid (Below wd.heap.size wd w5) := HB4.out.trans (hbl5.mono HB4.out.size)
        have HR5 := hid_of (And.intro hb5 (And.intro hl5 h5))
        clear hb5 hl5 h5 hbl5
        go_wp2_with fail
        go_meet
        exact ⟨_, _, L5, rfl, HR5.out, HB5.out⟩
    case rest =>
      obtain ⟨a5, c5, L5, rfl, HR5, HB5⟩ := hcut
      have HBW : Hid (Below W.heap.size W wc) := HBD.out.trans (HB5.out.mono HBD.out.size)
      have HQ5 : Hid (Bs wc (some ⟨g2, 0, none⟩) kk2 P) := HQ.out.below HB5.out
      have HX5 : Hid (wc.heap[bx]? = some (.cells #[.int .i64 x1, .int .i64 x2, .int .i64 x3, .int .i64 x4] 23 (0, 0))) := (HB5.out.block bx (Array.getElem?_eq_some_iff.1 HXD.out).1).trans HXD.out
      clear HQ HXD HBD HB4 HBX4 HLX HB5
      go_wp2_with fail
      refine (HCUT.out _ HBW.out).mono ?_
      rintro e wc' ⟨rfl, hrb, rfl⟩
      have HRB := hid_of hrb
      clear hrb HCUT
      go_wp2_with fail
      obtain ⟨wl, hwl⟩ : ∃ wl, wl = wc.alloc (.cells #[.slice (some ⟨g2, 0, none⟩) 128 kk2, .slice a5 128 c5, .slice a lb.length cap] 26) := ⟨_, rfl⟩
      obtain ⟨gr, hgr⟩ : ∃ gr, gr = wc.heap.size := ⟨_, rfl⟩
      have hbl : Below wc.heap.size wc wl := by rw [hwl]; exact (Below.refl _ _).alloc (Nat.le_refl _) _
      have hrl : wl.heap[gr]? = some (.cells #[.slice (some ⟨g2, 0, none⟩) 128 kk2, .slice a5 128 c5, .slice a lb.length cap] 26 (0, 0)) := by rw [hwl, hgr]; exact heap_alloc_new wc _
      have HBL : Hid (Below W.heap.size W wl) := HBW.out.trans (hbl.mono HBW.out.size)
      have HXL : Hid (wl.heap[bx]? = some (.cells #[.int .i64 x1, .int .i64 x2, .int .i64 x3, .int .i64 x4] 23 (0, 0))) := (hbl.block bx (Array.getElem?_eq_some_iff.1 HX5.out).1).trans HX5.out
      have HROW : Hid (∀ j, j < 3 → ∃ a6 n6 c6 l6, wl.cell? ⟨gr, j, none⟩ = some (.slice a6 n6 c6) ∧ RowG wl (.slice a6 n6 c6) l6) := fun j hj => by
        have hc : ∀ (j : Nat) v, (#[.slice (some ⟨g2, 0, none⟩) 128 kk2, .slice a5 128 c5, .slice a lb.length cap] : Array Value)[j]? = some v → wl.cell? ⟨gr, j, none⟩ = some v := fun j v hv => by
          unfold World.cell?; rw [hrl]; exact hv
        rcases (by omega : j = 0 ∨ j = 1 ∨ j = 2) with rfl | rfl | rfl
        · exact ⟨_, _, _, P, hc 0 _ rfl, ⟨_, _, by rw [HPL.out.1], HQ5.out.below hbl, by rw [HPL.out.1]; decide, HPL.out.2⟩⟩
        · exact ⟨_, _, _, L5, hc 1 _ rfl, ⟨_, _, by rw [HR5.out.2.1], HR5.out.1.below hbl, by rw [HR5.out.2.1]; decide, HR5.out.2.2⟩⟩
        · exact ⟨_, _, _, lb, hc 2 _ rfl, HRB.out.below hbl⟩
      rw [← hwl, ← hgr]
      have hgl : gr < wl.heap.size := (Array.getElem?_eq_some_iff.1 hrl).1
      clear hwl hgr hbl hrl HBW HQ5 HX5 HR5 HRB HPL
      go_loopw [63] (fun i wr => ∃ j : Nat, j ≤ 3 ∧ i = .int .i64 (j : Int) ∧ Hid (Below wl.heap.size wl wr)) (fun i _ => 3 - (intOf i).toNat)
      case atStart => exact ⟨0, by decide, rfl, Below.refl _ _⟩
      case round =>
        obtain ⟨j, hj, rfl, HBR⟩ := hrel
        by_cases hj3 : j < 3
        · obtain ⟨a6, n6, c6, l6, hcell, hrow⟩ := HROW.out j hj3
          have hcell' : wr.cell? ⟨gr, j, none⟩ = some (.slice a6 n6 c6) := by rw [HBR.out.cell (p := ⟨gr, j, none⟩) hgl]; exact hcell
          have HBWR : Hid (Below W.heap.size W wr) := HBL.out.trans (HBR.out.mono HBL.out.size)
          obtain ⟨u1, u2, u3, u4, uc, uo, HD1, HD2⟩ := HUN.out wr _ _ HBWR.out (hrow.below HBR.out)
          clear hcell hrow
          go_wp2_with fail
          refine HD1.out.mono ?_
          rintro e w6 ⟨rfl, hb6⟩
          obtain ⟨wA, hwA⟩ : ∃ wA, wA = w6.alloc (.cells #[.int .i64 u1, .int .i64 u2, .int .i64 u3, .int .i64 u4] 23) := ⟨_, rfl⟩
          obtain ⟨sx, hsx⟩ : ∃ sx, sx = w6.heap.size := ⟨_, rfl⟩
          have hbA : Below wr.heap.size wr wA := by rw [hwA]; exact hb6.alloc hb6.size _
          have hsA : wA.heap[sx]? = some (.cells #[.int .i64 u1, .int .i64 u2, .int .i64 u3, .int .i64 u4] 23 (0, 0)) := by rw [hwA, hsx]; exact heap_alloc_new w6 _
          have HSA := hid_of hsA
          have HBA : Hid (Below wl.heap.size wl wA) := HBR.out.trans (hbA.mono HBR.out.size)
          have HC2 := hid_of (HD2.out wA hbA)
          go_upto_region 15 with fail
          rw [← hwA, ← hsx]
          clear hwA hsx hbA hsA hb6 HD1 HD2 hcell' HBWR
          go_wp2_with fail
          refine HC2.out.mono ?_
          rintro e w7 ⟨rfl, hb7⟩
          obtain ⟨wB, hwB⟩ : ∃ wB, wB = w7.alloc (.cells #[.int .i64 u1, .int .i64 u2, .int .i64 u3, .int .i64 u4] 23) := ⟨_, rfl⟩
          obtain ⟨tx2, htx⟩ : ∃ tx2, tx2 = w7.heap.size := ⟨_, rfl⟩
          have hbB : Below wA.heap.size wA wB := by rw [hwB]; exact hb7.alloc hb7.size _
          have htB : wB.heap[tx2]? = some (.cells #[.int .i64 u1, .int .i64 u2, .int .i64 u3, .int .i64 u4] 23 (0, 0)) := by rw [hwB, htx]; exact heap_alloc_new w7 _
          have hsB : wB.heap[sx]? = some (.cells #[.int .i64 u1, .int .i64 u2, .int .i64 u3, .int .i64 u4] 23 (0, 0)) := (hbB.block sx (Array.getElem?_eq_some_iff.1 HSA.out).1).trans HSA.out
          have HBB : Hid (Below wl.heap.size wl wB) := HBA.out.trans (hbB.mono HBA.out.size)
          obtain ⟨⟨k0, k1, k2, k3⟩, -⟩ := box4 hsB
          obtain ⟨⟨j0, j1, j2, j3⟩, -⟩ := box4 htB
          go_upto_region 16 with fail
          rw [← hwB, ← htx]
          clear hwB htx hbB htB hsB hb7 HSA HBA HC2
          go_wp2_with fail
          all_goals go_roundw
          case rel => exact ⟨j + 1, by omega, by go_num, HBB⟩
          case measure => simp [intOf]; omega
        · obtain rfl : j = 3 := by omega
          have HBWR : Hid (Below W.heap.size W wr) := HBL.out.trans (HBR.out.mono HBL.out.size)
          have hxr : wr.heap[bx]? = some (.cells #[.int .i64 x1, .int .i64 x2, .int .i64 x3, .int .i64 x4] 23 (0, 0)) := (HBR.out.block bx (Array.getElem?_eq_some_iff.1 HXL.out).1).trans HXL.out
          obtain ⟨⟨k0, k1, k2, k3⟩, -⟩ := box4 hxr
          have h64g : -9223372036854775808 ≤ x1 ∧ x1 ≤ 9223372036854775807 := H64.out.2.g
          have hM : (if x1 < 0 then (0 : Int) else x1) = max x1 0 := by split <;> omega
          obtain ⟨nx, hnx⟩ : ∃ nx : Nat, (nx : Int) = max x1 0 % 2 := ⟨(max x1 0 % 2).toNat, by omega⟩
          have HNX : Hid (∀ w, Calls Try.prog 11 #[.agg #[.int .i64 x1, .int .i64 x2, .int .i64 x3, .int .i64 x4]] w fun e w' => e = .returned (.int .i64 (nx : Int)) ∧ Below w.heap.size w w') := fun w => by
            have e := NX w ⟨x1, x2, x3, x4⟩ H64.out.2
            have e2 : nextSu ⟨x1, x2, x3, x4⟩ = (nx : Int) := hnx.symm
            rw [e2] at e
            exact e
          have HWN : Hid (∀ w, Calls Try.prog 9 #[.int .i64 (if x1 < 0 then (0 : Int) else x1), .int .i64 2] w fun e w' => e = .returned (.int .i64 (nx : Int)) ∧ w = w') := fun w => by rw [hM, hnx]; exact within_any (max x1 0) 2 w (by omega) (by have := h64g.2; omega) (by decide) (by decide)
          have HBD : Hid (∀ d, Below W.heap.size W (wr.drewN d)) := fun d => below_drewN HBWR.out d
          clear hxr h64g hnx hM HBL HXL HROW HUN
          go_upto_region 19 with fail
          have hCC : PkC W bx x1 x2 x3 x4 wr.drew := ⟨(HBD.out 1), k0, k1, k2, k3, World.block_lt_of_cell? wr _ k0⟩
          have l0 : ∀ w, PkC W bx x1 x2 x3 x4 w → w.cell? ⟨bx, 0, none⟩ = some (.int .i64 x1) := fun w h => h.c0
          have l1 : ∀ w, PkC W bx x1 x2 x3 x4 w → w.cell? ⟨bx, 1, none⟩ = some (.int .i64 x2) := fun w h => h.c1
          have l2 : ∀ w, PkC W bx x1 x2 x3 x4 w → w.cell? ⟨bx, 2, none⟩ = some (.int .i64 x3) := fun w h => h.c2
          have l3 : ∀ w, PkC W bx x1 x2 x3 x4 w → w.cell? ⟨bx, 3, none⟩ = some (.int .i64 x4) := fun w h => h.c3
          by_cases hx1 : x1 < 0
          · rw [if_pos hx1] at HWN
            refine wp_region_cls (C := PkC W bx x1 x2 x3 x4) (by kernel_rfl) (by kernel_rfl) hCC ?_
            repeat (first
              | go_big_quiet_skip
              | (go_big_quiet_want; go_big_quiet_op; first
                 | go_big_quiet_on
                 | (refine ⟨_, fun _ _ => rfl, ?_⟩; go_big_quiet_on)
                 | (apply Exists.intro
                    refine ⟨fun wq hq => ?_, ?_⟩
                    · first
                     | (go_at_call 11; exact (HNX.out wq).mono fun e w' ⟨e1, e2⟩ => ⟨e1, hq.next e2⟩)
                     | (go_at_call 9; exact (HWN.out wq).mono fun e w' ⟨e1, e2⟩ => ⟨e1, e2 ▸ hq⟩)
                     | (go_at_call 13; exact (HWK.out wq hq.bel).mono fun e w' ⟨e1, e2⟩ => ⟨e1, hq.next e2⟩)
                     | (simp only [hq.c0, hq.c1, hq.c2, hq.c3, Result.andThen_ok]; first | exact ⟨rfl, rfl⟩ | exact ⟨trivial, rfl⟩ | exact ⟨trivial, trivial⟩)
                    go_big_quiet_on)))
            refine wpQuiet_nil ?_
            intro wq hq
            go_wp2_with fail
            go_ret
            exact ⟨rfl, hq.bel⟩
          · rw [if_neg hx1] at HWN
            refine wp_region_cls (C := PkC W bx x1 x2 x3 x4) (by kernel_rfl) (by kernel_rfl) hCC ?_
            repeat (first
              | go_big_quiet_skip
              | (go_big_quiet_want; go_big_quiet_op; first
                 | go_big_quiet_on
                 | (refine ⟨_, fun _ _ => rfl, ?_⟩; go_big_quiet_on)
                 | (apply Exists.intro
                    refine ⟨fun wq hq => ?_, ?_⟩
                    · first
                     | (go_at_call 11; exact (HNX.out wq).mono fun e w' ⟨e1, e2⟩ => ⟨e1, hq.next e2⟩)
                     | (go_at_call 9; exact (HWN.out wq).mono fun e w' ⟨e1, e2⟩ => ⟨e1, e2 ▸ hq⟩)
                     | (go_at_call 13; exact (HWK.out wq hq.bel).mono fun e w' ⟨e1, e2⟩ => ⟨e1, hq.next e2⟩)
                     | (simp only [hq.c0, hq.c1, hq.c2, hq.c3, Result.andThen_ok]; first | exact ⟨rfl, rfl⟩ | exact ⟨trivial, rfl⟩ | exact ⟨trivial, trivial⟩)
                    go_big_quiet_on)))
            refine wpQuiet_nil ?_
            intro wq hq
            go_wp2_with fail
            go_ret
            exact ⟨rfl, hq.bel⟩

end Go.Proofs.Ytdcnbakmmkbodaa

/- SuperUnlike: the walk of the law, over the bundle. -/
namespace Go.Proofs.Ytdcnbakmmkbodaa
set_option linter.unusedVariables false
set_option linter.unusedSimpArgs false
open Go.RowKit Dg Cr

/-- The superblock in a variable. -/
def SuAt (w : World) (b : Nat) (s : Su) : Prop := w.heap[b]? = some (.cells #[.int .i64 s.gen, .int .i64 s.life, .int .i64 s.done, .int .i64 s.root] 23 (0, 0))
theorem SuAt.lt {w : World} {b : Nat} {s : Su} (h : SuAt w b s) : b < w.heap.size := (Array.getElem?_eq_some_iff.1 h).1
theorem SuAt.below {w w' : World} {b : Nat} {s : Su} (h : SuAt w b s) (hb : Below w.heap.size w w') : SuAt w' b s := (hb.block b h.lt).trans h
theorem SuAt.kept {w w' : World} {b : Nat} {s : Su} {F : Nat → Prop} (h : SuAt w b s) (hk : Kept F w w') (hF : ¬ F b) : SuAt w' b s := (hk.block b h.lt hF).trans h
/-- Four cells stored into a variable. -/
def put4W (w : World) (b : Nat) (s : Su) : World := (((w.setCell ⟨b, 0, none⟩ (.int .i64 s.gen)).setCell ⟨b, 1, none⟩ (.int .i64 s.life)).setCell ⟨b, 2, none⟩ (.int .i64 s.done)).setCell ⟨b, 3, none⟩ (.int .i64 s.root)
theorem SuAt.put {w : World} {b : Nat} {s t : Su} (h : SuAt w b s) : SuAt (put4W w b t) b t ∧ Kept (fun k => k = b) w (put4W w b t) := (box4 h).2.2.2.2.2.out _ _ _ _

set_option maxRecDepth 100000 in
set_option maxHeartbeats 16000000 in
theorem suun_any {Ok : World → Prop} (S : Sup Ok) (CH : SuChoose Ok) (W : World) (hok : Ok W) (s t : Su) (n0 m0 : Int) (twin : Bool) (what : Int) (hs : Su64 s) (ht : Su64 t) (hn : I64 n0) (hm : I64 m0) (hh : I64 what) :
    Calls Try.prog 7 #[suV s, suV t, .int .i64 n0, .int .i64 m0, .bool twin, .int .i64 what] W fun e W' => e = .returned (.bool true) ∧ Below W.heap.size W W' := by
  obtain ⟨k, hk⟩ : ∃ k : Nat, (k : Int) = what % 5 := ⟨(what % 5).toNat, by omega⟩
  obtain ⟨p, hp⟩ : ∃ p : Nat, (p : Int) = n0 % 99 := ⟨(n0 % 99).toNat, by omega⟩
  obtain ⟨q, hq⟩ : ∃ q : Nat, (q : Int) = m0 % 99 := ⟨(m0 % 99).toNat, by omega⟩
  have hk5 : k ≤ 4 := by omega
  have hp9 : p ≤ 98 := by omega
  have hq9 : q ≤ 98 := by omega
  have HWN : Hid (∀ w, Calls Try.prog 9 #[.int .i64 n0, .int .i64 99] w fun e w' => e = .returned (.int .i64 (p : Int)) ∧ w = w') := fun w => by rw [hp]; exact within_any n0 99 w hn.1 hn.2 (by decide) (by decide)
  have HWM : Hid (∀ w, Calls Try.prog 9 #[.int .i64 m0, .int .i64 99] w fun e w' => e = .returned (.int .i64 (q : Int)) ∧ w = w') := fun w => by rw [hq]; exact within_any m0 99 w hm.1 hm.2 (by decide) (by decide)
  have HWH : Hid (∀ w, Calls Try.prog 9 #[.int .i64 what, .int .i64 5] w fun e w' => e = .returned (.int .i64 (k : Int)) ∧ w = w') := fun w => by rw [hk]; exact within_any what 5 w hh.1 hh.2 (by decide) (by decide)
  have HSM : Hid (∀ w, Calls Try.prog 8 #[suV s] w fun e w' => e = .returned (suV (smallSu s)) ∧ Below w.heap.size w w') := fun w => small_any w s hs
  have HTM : Hid (∀ w, Calls Try.prog 8 #[suV t] w fun e w' => e = .returned (suV (smallSu t)) ∧ Below w.heap.size w w') := fun w => small_any w t ht
  have HOK : Hid (∀ w, Below W.heap.size W w → Ok w) := fun w hw => S.okK hok ⟨hw.os, hw.tape, hw.output, hw.size, fun k hk _ => hw.block k hk⟩
  have HWK : Hid (∀ w, Below W.heap.size W w → Calls Try.prog 13 #[] w fun e w' => e = .returned (.bool true) ∧ Below w.heap.size w w') := fun w hw => wakes14_any S CH w (HOK.out w hw)
  have HIN1 := hid_of (smallSu_in s)
  have HIN2 := hid_of (smallSu_in t)
  obtain ⟨⟨y1, y2, y3, y4⟩, hy⟩ : ∃ y, y = smallSu s := ⟨_, rfl⟩
  obtain ⟨⟨x1, x2, x3, x4⟩, hx⟩ : ∃ y, y = smallSu t := ⟨_, rfl⟩
  rw [← hy] at HSM HIN1
  rw [← hx] at HTM HIN2
  have hwr1 : IntKind.i64.wrap (1 + (p : Int)) = 1 + (p : Int) := wrap_of (by omega) (by omega)
  have hwr2 : IntKind.i64.wrap (1 + (q : Int)) = 1 + (q : Int) := wrap_of (by omega) (by omega)
  have kq := su_equal
  obtain ⟨s1, s2, s3, s4⟩ := s
  obtain ⟨t1, t2, t3, t4⟩ := t
  clear hk hp hq hs ht hn hm hh hok hy hx
  unfold suV at HSM HTM ⊢
  simp only [] at HSM HTM ⊢
  obtain ⟨w0, hw0⟩ : ∃ w0, w0 = (W.alloc (.cells #[.int .i64 s1, .int .i64 s2, .int .i64 s3, .int .i64 s4] 23)).alloc (.cells #[.int .i64 t1, .int .i64 t2, .int .i64 t3, .int .i64 t4] 23) := ⟨_, rfl⟩
  go_enter Try.func7, Try.ntmps7
  go_upto_region 1 with fail
  obtain ⟨bx, hbx⟩ : ∃ bx, bx = W.heap.size := ⟨_, rfl⟩
  obtain ⟨tx, htx⟩ : ∃ tx, tx = W.heap.size + 1 := ⟨_, rfl⟩
  have hs1 : (W.alloc (.cells #[.int .i64 s1, .int .i64 s2, .int .i64 s3, .int .i64 s4] 23)).heap.size = W.heap.size + 1 := by simp
  have hb0 : Below W.heap.size W w0 := by rw [hw0]; exact ((Below.refl _ _).alloc (Nat.le_refl _) _).alloc (by simp) _
  have hbX : SuAt w0 bx ⟨s1, s2, s3, s4⟩ := by
    have e := heap_alloc_old (W.alloc (.cells #[.int .i64 s1, .int .i64 s2, .int .i64 s3, .int .i64 s4] 23)) (.cells #[.int .i64 t1, .int .i64 t2, .int .i64 t3, .int .i64 t4] 23) (r := W.heap.size) (by rw [hs1]; omega)
    unfold SuAt
    rw [hw0, hbx, e]
    exact heap_alloc_new W _
  have htX : SuAt w0 tx ⟨t1, t2, t3, t4⟩ := by
    unfold SuAt
    rw [hw0, htx, ← hs1]
    exact heap_alloc_new _ _
  have HB0 := hid_of hb0
  have HX0 : Hid (SuAt w0 bx ⟨s1, s2, s3, s4⟩ ∧ SuAt w0 tx ⟨t1, t2, t3, t4⟩) := ⟨hbX, htX⟩
  have HNE : Hid (bx ≠ tx ∧ W.heap.size ≤ bx ∧ W.heap.size ≤ tx) := ⟨by omega, by omega, by omega⟩
  rw [← hw0, ← htx, ← hbx]
  clear hw0 hbx htx hs1 hb0 hbX htX
  go_cut [] from 22 to 25 (fun wx => Hid (SuAt wx bx ⟨y1, y2, y3, y4⟩ ∧ SuAt wx tx ⟨x1, x2, x3, x4⟩) ∧ Hid (Below W.heap.size W wx))
  case first =>
    obtain ⟨⟨k0, k1, k2, k3⟩, -⟩ := box4 HX0.out.1
    obtain ⟨⟨j0, j1, j2, j3⟩, -⟩ := box4 HX0.out.2
    have HB0' : Hid (Below w0.heap.size w0 (w0.drewN 1)) := below_drewN (Below.refl _ _) 1
    go_region_with (first
      | (go_at_call_of 8 (Value.agg #[.int .i64 s1, .int .i64 s2, .int .i64 s3, .int .i64 s4]); refine (HSM.out _).mono ?_; rintro e w1 ⟨rfl, hb1'⟩; have hb1 : Below w0.heap.size w0 w1 := ⟨hb1'.os, hb1'.tape, hb1'.output, hb1'.size, hb1'.block⟩; have hX1 : SuAt w1 bx ⟨s1, s2, s3, s4⟩ ∧ SuAt w1 tx ⟨t1, t2, t3, t4⟩ := ⟨HX0.out.1.below hb1, HX0.out.2.below hb1⟩; have HX1 := hid_of hX1; have HB1 : Hid (Below W.heap.size W w1) := HB0.out.trans (hb1.mono HB0.out.size); obtain ⟨⟨a0, a1, a2, a3⟩, -⟩ := box4 hX1.2; clear hb1 hb1' hX1)
      | (go_at_call_of 8 (Value.agg #[.int .i64 t1, .int .i64 t2, .int .i64 t3, .int .i64 t4]); refine (HTM.out _).mono ?_; rintro e w2 ⟨rfl, hb2⟩; have hX2 : SuAt w2 bx ⟨s1, s2, s3, s4⟩ ∧ SuAt w2 tx ⟨t1, t2, t3, t4⟩ := ⟨HX1.out.1.below hb2, HX1.out.2.below hb2⟩; have HX2 := hid_of hX2; have HB2 : Hid (Below W.heap.size W w2) := HB1.out.trans (hb2.mono HB1.out.size); obtain ⟨⟨z0, z1, z2, z3⟩, mf, f1, f2, f3, HST⟩ := box4 hX2.1; have HP1 := hX2.1.put (t := ⟨y1, y2, y3, y4⟩); have HT1 : SuAt (put4W w2 bx ⟨y1, y2, y3, y4⟩) tx ⟨t1, t2, t3, t4⟩ := hX2.2.kept HP1.2 (fun e => HNE.out.1 e.symm); obtain ⟨⟨c0, c1, c2, c3⟩, cf, g1, g2, g3, HST2⟩ := box4 HT1; have HP2 := HT1.put (t := ⟨x1, x2, x3, x4⟩); have HFIN : Hid (SuAt (put4W (put4W w2 bx ⟨y1, y2, y3, y4⟩) tx ⟨x1, x2, x3, x4⟩) bx ⟨y1, y2, y3, y4⟩ ∧ SuAt (put4W (put4W w2 bx ⟨y1, y2, y3, y4⟩) tx ⟨x1, x2, x3, x4⟩) tx ⟨x1, x2, x3, x4⟩ ∧ Below W.heap.size W (put4W (put4W w2 bx ⟨y1, y2, y3, y4⟩) tx ⟨x1, x2, x3, x4⟩)) := ⟨HP1.1.kept HP2.2 HNE.out.1, HP2.1, HP2.2.below_of (HP1.2.below_of HB2.out (fun k e => by subst e; exact HNE.out.2.1) HB2.out.size) (fun k e => by subst e; exact HNE.out.2.2) (Nat.le_trans HB2.out.size HP1.2.size)⟩; clear hb2 hX2 HP1 HP2 HT1; unfold put4W at c0 c1 c2 c3 cf g1 g2 g3))
    all_goals (try go_wp2_with fail)
    all_goals go_meet
    all_goals exact ⟨⟨HFIN.out.1, HFIN.out.2.1⟩, HFIN.out.2.2⟩
  case rest =>
    obtain ⟨HX, HB⟩ := hcut
    clear HX0 HB0 HSM HTM
    go_wp2_with fail
    refine (HWN.out _).mono ?_
    rintro e w' ⟨rfl, rfl⟩
    go_wp2_with fail
    refine (HWM.out _).mono ?_
    rintro e w' ⟨rfl, rfl⟩
    go_upto_if 32 with fail
    go_cut [3] from 33 to 34 (fun v wx => ∃ (z1 z2 z3 z4 m2 : Int), v = .int .i64 m2 ∧ Hid (SuAt wx bx ⟨y1, y2, y3, y4⟩ ∧ SuAt wx tx ⟨z1, z2, z3, z4⟩) ∧ Hid (1 ≤ m2 ∧ m2 ≤ 99) ∧ Hid ((1 ≤ z1 ∧ z1 ≤ 9) ∧ (1 ≤ z2 ∧ z2 ≤ 9) ∧ (0 ≤ z3 ∧ z3 ≤ 8) ∧ (0 ≤ z4 ∧ z4 ≤ 89)) ∧ Hid (Below W.heap.size W wx))
    case first =>
      cases twin
      · go_wp2_with fail
        go_meet
        exact ⟨x1, x2, x3, x4, _, rfl, HX.out, ⟨by omega, by omega⟩, HIN2.out, HB.out⟩
      · obtain ⟨⟨k0, k1, k2, k3⟩, -⟩ := box4 HX.out.1
        obtain ⟨⟨j0, j1, j2, j3⟩, mf, f1, f2, f3, HST⟩ := box4 HX.out.2
        have hput := HX.out.2.put (t := ⟨y1, y2, y3, y4⟩)
        have HPT : Hid (SuAt (put4W wc tx ⟨y1, y2, y3, y4⟩) bx ⟨y1, y2, y3, y4⟩ ∧ SuAt (put4W wc tx ⟨y1, y2, y3, y4⟩) tx ⟨y1, y2, y3, y4⟩ ∧ Below W.heap.size W (put4W wc tx ⟨y1, y2, y3, y4⟩)) := ⟨HX.out.1.kept hput.2 HNE.out.1, hput.1, hput.2.below_of HB.out (fun k e => by subst e; exact HNE.out.2.2) HB.out.size⟩
        clear hput
        go_wp2_with fail
        go_meet
        exact ⟨y1, y2, y3, y4, _, rfl, ⟨HPT.out.1, HPT.out.2.1⟩, ⟨by omega, by omega⟩, HIN1.out, HPT.out.2.2⟩
    case rest =>
      obtain ⟨z1, z2, z3, z4, m2, rfl, HX2, HM, HZ, HB2⟩ := hcut
      clear HX HB HWN HWM HIN2 hwr2 hq9
      obtain ⟨A, hA⟩ : ∃ A, A = packSu ⟨y1, y2, y3, y4⟩ (1 + (p : Int)) := ⟨_, rfl⟩
      obtain ⟨A2, hA2⟩ : ∃ A, A = packSu ⟨z1, z2, z3, z4⟩ m2 := ⟨_, rfl⟩
      have HP1 : Hid (∀ w, Below W.heap.size W w → Calls Try.prog 10 #[.agg #[.int .i64 y1, .int .i64 y2, .int .i64 y3, .int .i64 y4], .int .i64 (1 + (p : Int))] w fun e w' => ∃ g k, e = .returned (.slice (some ⟨g, 0, none⟩) 128 k) ∧ Bs w' (some ⟨g, 0, none⟩) k A ∧ Below w.heap.size w w') := fun w hw => by
        have hy := HIN1.out
        (try simp only [] at hy)
        refine (S.packB w ⟨y1, y2, y3, y4⟩ (1 + (p : Int)) (HOK.out w hw) ⟨⟨by show _ ≤ y1; omega, by show y1 ≤ _; omega⟩, ⟨by show _ ≤ y2; omega, by show y2 ≤ _; omega⟩, ⟨by show _ ≤ y3; omega, by show y3 ≤ _; omega⟩, ⟨by show _ ≤ y4; omega, by show y4 ≤ _; omega⟩⟩ ⟨by omega, by omega⟩).mono ?_
        rintro e w' ⟨g, k, rfl, ho, hb⟩
        exact ⟨g, k, rfl, by rw [hA]; exact bs_own ho, hb⟩
      have HP2 : Hid (∀ w, Below W.heap.size W w → Calls Try.prog 10 #[.agg #[.int .i64 z1, .int .i64 z2, .int .i64 z3, .int .i64 z4], .int .i64 m2] w fun e w' => ∃ g k, e = .returned (.slice (some ⟨g, 0, none⟩) 128 k) ∧ Bs w' (some ⟨g, 0, none⟩) k A2 ∧ Below w.heap.size w w') := fun w hw => by
        have hz := HZ.out
        have hm := HM.out
        refine (S.packB w ⟨z1, z2, z3, z4⟩ m2 (HOK.out w hw) ⟨⟨by show _ ≤ z1; omega, by show z1 ≤ _; omega⟩, ⟨by show _ ≤ z2; omega, by show z2 ≤ _; omega⟩, ⟨by show _ ≤ z3; omega, by show z3 ≤ _; omega⟩, ⟨by show _ ≤ z4; omega, by show z4 ≤ _; omega⟩⟩ ⟨by omega, by omega⟩).mono ?_
        rintro e w' ⟨g, k, rfl, ho, hb⟩
        exact ⟨g, k, rfl, by rw [hA2]; exact bs_own ho, hb⟩
      have HAL : Hid (A.length = 128 ∧ A2.length = 128 ∧ (∀ x ∈ A, x < 256) ∧ (A = A2 ↔ (⟨y1, y2, y3, y4⟩ : Su) = ⟨z1, z2, z3, z4⟩ ∧ 1 + (p : Int) = m2)) := by
        have hy := HIN1.out
        (try simp only [] at hy)
        have hz := HZ.out
        have hm := HM.out
        refine ⟨by rw [hA]; exact length_packSu _ _, by rw [hA2]; exact length_packSu _ _, by rw [hA]; exact packSu_lt _ _, ?_⟩
        rw [hA, hA2]
        exact GoodSu.unlike ⟨⟨by show 0 ≤ y1; omega, by show y1 < _; omega⟩, ⟨by show 0 ≤ y2; omega, by show y2 < _; omega⟩, ⟨by show 0 ≤ y3; omega, by show y3 < _; omega⟩, ⟨by show 0 ≤ y4; omega, by show y4 < _; omega⟩, ⟨by omega, by omega⟩⟩ ⟨⟨by show 0 ≤ z1; omega, by show z1 < _; omega⟩, ⟨by show 0 ≤ z2; omega, by show z2 < _; omega⟩, ⟨by show 0 ≤ z3; omega, by show z3 < _; omega⟩, ⟨by show 0 ≤ z4; omega, by show z4 < _; omega⟩, ⟨by omega, by omega⟩⟩
      clear hA hA2
      go_upto_region 5 with fail
      go_cut [13, 14] from 35 to 40 (fun va vb wx => ∃ g1 k1 g2 k2, va = .slice (some ⟨g1, 0, none⟩) 128 k1 ∧ vb = .slice (some ⟨g2, 0, none⟩) 128 k2 ∧ Hid (Bs wx (some ⟨g1, 0, none⟩) k1 A ∧ Bs wx (some ⟨g2, 0, none⟩) k2 A2) ∧ Hid (SuAt wx bx ⟨y1, y2, y3, y4⟩ ∧ SuAt wx tx ⟨z1, z2, z3, z4⟩) ∧ Hid (Below W.heap.size W wx))
      case first =>
        obtain ⟨⟨k0, k1, k2, k3⟩, -⟩ := box4 HX2.out.1
        obtain ⟨⟨j0, j1, j2, j3⟩, -⟩ := box4 HX2.out.2
        have HBd : Hid (∀ d, Below W.heap.size W (wc.drewN d)) := fun d => below_drewN HB2.out d
        go_region_with (first
          | (go_at_call_of 10 (Value.agg #[.int .i64 y1, .int .i64 y2, .int .i64 y3, .int .i64 y4]); refine (HP1.out _ (HBd.out 1)).mono ?_; rintro e w1 ⟨g1, kk1, rfl, ho1, hb1'⟩; have hb1 : Below wc.heap.size wc w1 := ⟨hb1'.os, hb1'.tape, hb1'.output, hb1'.size, hb1'.block⟩; have HX3 : Hid (SuAt w1 bx ⟨y1, y2, y3, y4⟩ ∧ SuAt w1 tx ⟨z1, z2, z3, z4⟩) := ⟨HX2.out.1.below hb1, HX2.out.2.below hb1⟩; have HB3 : Hid (Below W.heap.size W w1) := HB2.out.trans (hb1.mono HB2.out.size); have HO1 := hid_of ho1; obtain ⟨⟨a0, a1, a2, a3⟩, -⟩ := box4 HX3.out.2; clear hb1 hb1' ho1)
          | (go_at_call_of 10 (Value.agg #[.int .i64 z1, .int .i64 z2, .int .i64 z3, .int .i64 z4]); refine (HP2.out _ HB3.out).mono ?_; rintro e w2 ⟨g2, kk2, rfl, ho2, hb2⟩; have HX4 : Hid (SuAt w2 bx ⟨y1, y2, y3, y4⟩ ∧ SuAt w2 tx ⟨z1, z2, z3, z4⟩) := ⟨HX3.out.1.below hb2, HX3.out.2.below hb2⟩; have HB4 : Hid (Below W.heap.size W w2) := HB3.out.trans (hb2.mono HB3.out.size); have HO2 : Hid (Bs w2 (some ⟨g1, 0, none⟩) kk1 A ∧ Bs w2 (some ⟨g2, 0, none⟩) kk2 A2) := ⟨HO1.out.below hb2, ho2⟩; clear hb2 ho2))
        all_goals (try go_wp2_with fail)
        all_goals go_meet
        all_goals exact ⟨_, _, _, _, rfl, rfl, HO2.out, HX4.out, HB4.out⟩
      case rest =>
        obtain ⟨g1, kk1, g2, kk2, rfl, rfl, HO, HX5, HB5⟩ := hcut
        clear HX2 HB2 HP2
        obtain ⟨E, hE⟩ : ∃ E, E = (y1 == z1 && (y2 == z2 && (y3 == z3 && y4 == z4))) := ⟨_, rfl⟩
        obtain ⟨N, hN⟩ : ∃ N, N = (1 + (p : Int) == m2) := ⟨_, rfl⟩
        have HT : Hid (∀ d, Calls Try.prog 15 #[.slice (some ⟨g1, 0, none⟩) 128 kk1, .slice (some ⟨g2, 0, none⟩) 128 kk2] (wc.drewN d) fun e w' => e = .returned (.bool (E && N)) ∧ ∃ k, w' = wc.drewN k) := fun d => by
          have e1 := HO.out.1.at_
          have e2 := HO.out.2.at_
          rw [HAL.out.1] at e1
          rw [HAL.out.2.1] at e2
          refine (sameB_all (wc.drewN d) _ _ A A2 e1 e2 (by rw [HAL.out.1]; decide) (E && N) ?_).mono ?_
          · by_cases hAA : A = A2
            · rw [decide_eq_true hAA]
              obtain ⟨f1, f2⟩ := HAL.out.2.2.2.1 hAA
              injection f1 with f3 f4 f5 f6
              rw [hE, hN, f3, f4, f5, f6, f2]
              simp
            · rw [decide_eq_false hAA]
              cases hEN : (E && N) with
              | false => rfl
              | true =>
                rw [hE, hN] at hEN
                simp only [Bool.and_eq_true, beq_iff_eq] at hEN
                obtain ⟨⟨f1, f2, f3, f4⟩, f5⟩ := hEN
                exact absurd (HAL.out.2.2.2.2 ⟨by rw [f1, f2, f3, f4], f5⟩) hAA
          · rintro e w' ⟨e1, k, e2⟩
            exact ⟨e1, d + k, by rw [e2, World.drewN_drewN]⟩
        obtain ⟨⟨k0, k1, k2, k3⟩, -⟩ := box4 HX5.out.1
        obtain ⟨⟨j0, j1, j2, j3⟩, -⟩ := box4 HX5.out.2
        have hE' : (y1 == z1 && (y2 == z2 && (y3 == z3 && y4 == z4))) = E := hE.symm
        have hN' : (1 + (p : Int) == m2) = N := hN.symm
        have kq2 : ∀ w, (Op.equalIn 10000 23 (.agg #[.int .i64 y1, .int .i64 y2, .int .i64 y3, .int .i64 y4]) (.agg #[.int .i64 z1, .int .i64 z2, .int .i64 z3, .int .i64 z4])).run Try.prog w = .ok E w := fun w => by rw [← hE']; exact su_equal _ _ _ _ _ _ _ _ w
        clear hE hN hE'
        go_upto_region 6 with fail
        clear kq
        go_cut [57] from 41 to 57 (fun v wx => v = .bool false ∧ ∃ d, wx = wc.drewN d)
        case first =>
          cases E <;> cases N
          all_goals
            go_quiet (first | (go_at_call 15; exact HT.out _))
            go_wp2_with fail
            go_meet
            exact ⟨rfl, nq, rfl⟩
        case rest =>
          obtain ⟨rfl, d, rfl⟩ := hcut
          obtain ⟨wd, hwd⟩ : ∃ wd, wd = wc.drewN d := ⟨_, rfl⟩
          have HXd : Hid (SuAt wd bx ⟨y1, y2, y3, y4⟩) := by rw [hwd]; exact HX5.out.1
          have HBd : Hid (Below W.heap.size W wd) := by rw [hwd]; exact below_drewN HB5.out d
          have HOd : Hid (Bs wd (some ⟨g1, 0, none⟩) kk1 A) := by rw [hwd]; exact HO.out.1.below (below_drewN (Below.refl _ _) d)
          rw [← hwd]
          clear hwd
          obtain ⟨we, hwe⟩ : ∃ we, we = wd.alloc (.cells #[.int .i64 y1, .int .i64 y2, .int .i64 y3, .int .i64 y4] 23) := ⟨_, rfl⟩
          obtain ⟨sx, hsx⟩ : ∃ sx, sx = wd.heap.size := ⟨_, rfl⟩
          have hbe : Below wd.heap.size wd we := by rw [hwe]; exact (Below.refl _ _).alloc (Nat.le_refl _) _
          have HSE : Hid (SuAt we sx ⟨y1, y2, y3, y4⟩) := by show we.heap[sx]? = _; rw [hwe, hsx]; exact heap_alloc_new wd _
          have HBE : Hid (Below W.heap.size W we) := HBd.out.trans (hbe.mono HBd.out.size)
          have HOE : Hid (Bs we (some ⟨g1, 0, none⟩) kk1 A) := HOd.out.below hbe
          have HNS : Hid (W.heap.size ≤ sx ∧ g1 ≠ sx) := by
            refine ⟨by rw [hsx]; exact HBd.out.size, fun e => ?_⟩
            have h1 := HOd.out.at_.lt (fun e => by have := HAL.out.1; rw [e] at this; cases this) g1 rfl
            omega
          have hcap := HOd.out.le
          rw [HAL.out.1] at hcap
          obtain ⟨⟨e0, e1, e2, e3⟩, mf, -⟩ := box4 HSE.out
          obtain ⟨⟨k0', k1', k2', k3'⟩, -⟩ := box4 HXd.out
          clear HX5 HB5 HT hbe k0 k1 k2 k3 j0 j1 j2 j3 kq2 hN'
          go_upto_region 9 with fail
          rw [← hwe, ← hsx]
          clear hwe hsx k0' k1' k2' k3'
          go_wp2_with fail
          refine (HWH.out _).mono ?_
          rintro e w' ⟨rfl, rfl⟩
          have hsl : ∀ W, (Instr.sliceAt 26 (.slice (some ⟨g1, 0, none⟩) 128 kk1) none (some (.int .i64 127)) none).run Try.prog W = .ok (.slice (some ⟨g1, 0, none⟩) 127 kk1) W := fun W => slice_hi _ 128 kk1 127 (by omega) W
          rcases (by omega : k = 0 ∨ k = 1 ∨ k = 2 ∨ k = 3 ∨ k = 4) with rfl | rfl | rfl | rfl | rfl
          have HXQ : Hid (SuAt (we.setCell ⟨sx, 0, none⟩ (.int .i64 0)) sx ⟨0, y2, y3, y4⟩ ∧ Below W.heap.size W (we.setCell ⟨sx, 0, none⟩ (.int .i64 0)) ∧ Bs (we.setCell ⟨sx, 0, none⟩ (.int .i64 0)) (some ⟨g1, 0, none⟩) kk1 A) := ⟨by have e := heap_setCell_of (o := 0) HSE.out (.int .i64 0); exact e, (Kept.setCell (F := fun k => k = sx) _ ⟨sx, 0, none⟩ _ rfl).below_of HBE.out (fun k e => by subst e; exact HNS.out.1) HBE.out.size, HOE.out.kept (Kept.setCell (F := fun k => k = sx) _ ⟨sx, 0, none⟩ _ rfl) (fun _ k e e2 => by cases e; exact HNS.out.2 e2)⟩
          have HMY : Hid (GoodSu ⟨0, y2, y3, y4⟩ (1 + (p : Int)) ∧ ¬ maySu ⟨0, y2, y3, y4⟩ (1 + (p : Int)) ∧ Su64 ⟨0, y2, y3, y4⟩ ∧ I64 (1 + (p : Int))) := by
            have hy := HIN1.out
            (try simp only [] at hy)
            refine ⟨⟨⟨?_, ?_⟩, ⟨?_, ?_⟩, ⟨?_, ?_⟩, ⟨?_, ?_⟩, ⟨?_, ?_⟩⟩, fun h => ?_, ⟨⟨?_, ?_⟩, ⟨?_, ?_⟩, ⟨?_, ?_⟩, ⟨?_, ?_⟩⟩, ?_, ?_⟩
            rotate_left 10
            · obtain ⟨⟨h1, h2⟩, ⟨h3, h4⟩, h5, h6, h7, h8⟩ := h
              simp only [] at h1 h2 h3 h4 h5 h6 h7 h8
              omega
            all_goals first | omega | (simp only []; omega)
          go_upto_region 19 with fail
          rotate_left
          have HXQ : Hid (SuAt (we.setCell ⟨sx, 1, none⟩ (.int .i64 0)) sx ⟨y1, 0, y3, y4⟩ ∧ Below W.heap.size W (we.setCell ⟨sx, 1, none⟩ (.int .i64 0)) ∧ Bs (we.setCell ⟨sx, 1, none⟩ (.int .i64 0)) (some ⟨g1, 0, none⟩) kk1 A) := ⟨by have e := heap_setCell_of (o := 1) HSE.out (.int .i64 0); exact e, (Kept.setCell (F := fun k => k = sx) _ ⟨sx, 1, none⟩ _ rfl).below_of HBE.out (fun k e => by subst e; exact HNS.out.1) HBE.out.size, HOE.out.kept (Kept.setCell (F := fun k => k = sx) _ ⟨sx, 1, none⟩ _ rfl) (fun _ k e e2 => by cases e; exact HNS.out.2 e2)⟩
          have HMY : Hid (GoodSu ⟨y1, 0, y3, y4⟩ (1 + (p : Int)) ∧ ¬ maySu ⟨y1, 0, y3, y4⟩ (1 + (p : Int)) ∧ Su64 ⟨y1, 0, y3, y4⟩ ∧ I64 (1 + (p : Int))) := by
            have hy := HIN1.out
            (try simp only [] at hy)
            refine ⟨⟨⟨?_, ?_⟩, ⟨?_, ?_⟩, ⟨?_, ?_⟩, ⟨?_, ?_⟩, ⟨?_, ?_⟩⟩, fun h => ?_, ⟨⟨?_, ?_⟩, ⟨?_, ?_⟩, ⟨?_, ?_⟩, ⟨?_, ?_⟩⟩, ?_, ?_⟩
            rotate_left 10
            · obtain ⟨⟨h1, h2⟩, ⟨h3, h4⟩, h5, h6, h7, h8⟩ := h
              simp only [] at h1 h2 h3 h4 h5 h6 h7 h8
              omega
            all_goals first | omega | (simp only []; omega)
          go_upto_region 19 with fail
          rotate_left
          have HXQ : Hid (SuAt (we.setCell ⟨sx, 3, none⟩ (.int .i64 4096)) sx ⟨y1, y2, y3, 4096⟩ ∧ Below W.heap.size W (we.setCell ⟨sx, 3, none⟩ (.int .i64 4096)) ∧ Bs (we.setCell ⟨sx, 3, none⟩ (.int .i64 4096)) (some ⟨g1, 0, none⟩) kk1 A) := ⟨by have e := heap_setCell_of (o := 3) HSE.out (.int .i64 4096); exact e, (Kept.setCell (F := fun k => k = sx) _ ⟨sx, 3, none⟩ _ rfl).below_of HBE.out (fun k e => by subst e; exact HNS.out.1) HBE.out.size, HOE.out.kept (Kept.setCell (F := fun k => k = sx) _ ⟨sx, 3, none⟩ _ rfl) (fun _ k e e2 => by cases e; exact HNS.out.2 e2)⟩
          have HMY : Hid (GoodSu ⟨y1, y2, y3, 4096⟩ (1 + (p : Int)) ∧ ¬ maySu ⟨y1, y2, y3, 4096⟩ (1 + (p : Int)) ∧ Su64 ⟨y1, y2, y3, 4096⟩ ∧ I64 (1 + (p : Int))) := by
            have hy := HIN1.out
            (try simp only [] at hy)
            refine ⟨⟨⟨?_, ?_⟩, ⟨?_, ?_⟩, ⟨?_, ?_⟩, ⟨?_, ?_⟩, ⟨?_, ?_⟩⟩, fun h => ?_, ⟨⟨?_, ?_⟩, ⟨?_, ?_⟩, ⟨?_, ?_⟩, ⟨?_, ?_⟩⟩, ?_, ?_⟩
            rotate_left 10
            · obtain ⟨⟨h1, h2⟩, ⟨h3, h4⟩, h5, h6, h7, h8⟩ := h
              simp only [] at h1 h2 h3 h4 h5 h6 h7 h8
              omega
            all_goals first | omega | (simp only []; omega)
          go_upto_region 19 with fail
          rotate_left
          have HXQ : Hid (SuAt we sx ⟨y1, y2, y3, y4⟩ ∧ Below W.heap.size W we ∧ Bs we (some ⟨g1, 0, none⟩) kk1 A) := ⟨HSE.out, HBE.out, HOE.out⟩
          have HMY : Hid (GoodSu ⟨y1, y2, y3, y4⟩ (0) ∧ ¬ maySu ⟨y1, y2, y3, y4⟩ (0) ∧ Su64 ⟨y1, y2, y3, y4⟩ ∧ I64 (0)) := by
            have hy := HIN1.out
            (try simp only [] at hy)
            refine ⟨⟨⟨?_, ?_⟩, ⟨?_, ?_⟩, ⟨?_, ?_⟩, ⟨?_, ?_⟩, ⟨?_, ?_⟩⟩, fun h => ?_, ⟨⟨?_, ?_⟩, ⟨?_, ?_⟩, ⟨?_, ?_⟩, ⟨?_, ?_⟩⟩, ?_, ?_⟩
            rotate_left 10
            · obtain ⟨⟨h1, h2⟩, ⟨h3, h4⟩, h5, h6, h7, h8⟩ := h
              simp only [] at h1 h2 h3 h4 h5 h6 h7 h8
              omega
            all_goals first | omega | (simp only []; omega)
          go_upto_region 19 with fail
          rotate_left
          have HXQ : Hid (SuAt we sx ⟨y1, y2, y3, y4⟩ ∧ Below W.heap.size W we ∧ Bs we (some ⟨g1, 0, none⟩) kk1 A) := ⟨HSE.out, HBE.out, HOE.out⟩
          have HMY : Hid (GoodSu ⟨y1, y2, y3, y4⟩ (1025) ∧ ¬ maySu ⟨y1, y2, y3, y4⟩ (1025) ∧ Su64 ⟨y1, y2, y3, y4⟩ ∧ I64 (1025)) := by
            have hy := HIN1.out
            (try simp only [] at hy)
            refine ⟨⟨⟨?_, ?_⟩, ⟨?_, ?_⟩, ⟨?_, ?_⟩, ⟨?_, ?_⟩, ⟨?_, ?_⟩⟩, fun h => ?_, ⟨⟨?_, ?_⟩, ⟨?_, ?_⟩, ⟨?_, ?_⟩, ⟨?_, ?_⟩⟩, ?_, ?_⟩
            rotate_left 10
            · obtain ⟨⟨h1, h2⟩, ⟨h3, h4⟩, h5, h6, h7, h8⟩ := h
              simp only [] at h1 h2 h3 h4 h5 h6 h7 h8
              omega
            all_goals first | omega | (simp only []; omega)
          go_upto_region 19 with fail
          rotate_left
          all_goals
            obtain ⟨⟨q0, q1, q2, q3⟩, -⟩ := box4 HXQ.out.1
            have HPQ := hid_of (S.packB _ _ _ (HOK.out _ HXQ.out.2.1) HMY.out.2.2.1 HMY.out.2.2.2)
            unfold suV at HPQ
            simp only [] at HPQ
            go_wp2_with fail
            refine HPQ.out.mono ?_
            rintro e w1 ⟨g3, kk3, rfl, ho3, hb3⟩
            have hb31 := HXQ.out.2.1.trans (hb3.mono HXQ.out.2.1.size)
            have hun := S.unpB w1 _ 128 kk3 _ (HOK.out w1 hb31) (bs_own ho3) (length_packSu _ _) (by decide) (packSu_lt _ _)
            rw [GoodSu.unp_no HMY.out.1 HMY.out.2.1] at hun
            have HUN := hid_of hun
            have HB1 : Hid (Below W.heap.size W w1) := hb31
            have HO1 : Hid (Bs w1 (some ⟨g1, 0, none⟩) kk1 A) := HXQ.out.2.2.below hb3
            clear ho3 hb3 hb31 hun HPQ HMY q0 q1 q2 q3 HXQ
            unfold suV at HUN
            simp only [] at HUN
            go_wp2_with fail
            refine HUN.out.mono ?_
            rintro e w2 ⟨rfl, hb4⟩
            obtain ⟨w3, hw3⟩ : ∃ w3, w3 = w2.alloc (.cells #[.int .i64 0, .int .i64 0, .int .i64 0, .int .i64 0] 23) := ⟨_, rfl⟩
            have hb43 : Below w1.heap.size w1 w3 := by rw [hw3]; exact hb4.alloc hb4.size _
            have HB3 : Hid (Below W.heap.size W w3) := HB1.out.trans (hb43.mono HB1.out.size)
            have hbs := HO1.out.below hb43
            have hb127 : Bs w3 (some ⟨g1, 0, none⟩) kk1 (A.take 127) := ⟨by have e := hbs.hi 127 (by rw [HAL.out.1]; decide); rw [show (A.take 127).length = 127 by simp [HAL.out.1]]; exact e, by simp [HAL.out.1]; omega, hbs.nil⟩
            have hun := S.unpB w3 _ 127 kk1 _ (HOK.out w3 HB3.out) hb127 (by simp [HAL.out.1]) (by decide) (fun x hx => HAL.out.2.2.1 x (List.mem_of_mem_take hx))
            rw [unp_none (fun h => by have := h.1; simp [HAL.out.1] at this)] at hun
            have HUN2 := hid_of hun
            unfold suV at HUN2
            simp only [] at HUN2
            go_upto_region 20 with fail
            rw [← hw3]
            clear hw3 hb4 hb43 hbs hb127 hun HUN HB1 HO1
            go_wp2_with fail
            refine HUN2.out.mono ?_
            rintro e w4 ⟨rfl, hb5⟩
            obtain ⟨w5, hw5⟩ : ∃ w5, w5 = w4.alloc (.cells #[.int .i64 0, .int .i64 0, .int .i64 0, .int .i64 0] 23) := ⟨_, rfl⟩
            have hb45 : Below w3.heap.size w3 w5 := by rw [hw5]; exact hb5.alloc hb5.size _
            have HB5' : Hid (Below W.heap.size W w5) := HB3.out.trans (hb45.mono HB3.out.size)
            have HWQ := hid_of (HWK.out w5 HB5'.out)
            go_upto_region 21 with fail
            rw [← hw5]
            clear hw5 hb45 hb5 HUN2
            go_wp2_with fail
            refine HWQ.out.mono ?_
            rintro e w6 ⟨rfl, hb6⟩
            have HB6 : Hid (Below W.heap.size W w6) := HB5'.out.trans (hb6.mono HB5'.out.size)
            clear hb6
            go_wp2_with fail
            go_ret
            exact ⟨rfl, HB6.out⟩

end Go.Proofs.Ytdcnbakmmkbodaa
