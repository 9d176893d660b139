/- Encode, As, Decode and Kind of frame: the four contracts that the laws lean on. -/
import Derived.Test.YtlonnoapbfjomabGreatEnc5
import Derived.Test.YtlonnoapbfjomabGreatDec3
namespace Go.Proofs.YtlonnoapbfjomabGreat
set_option linter.unusedVariables false
set_option linter.unusedSimpArgs false
open Go.RowKit Dg

theorem fenc_any (w : World) (s : Nat) (a : Option Addr) (cap : Nat) (l : List Int) (hl : Ns w a cap l) (hll : l.length ≤ 1000000) (hs : mayX l → IsShift (autoZ l 0) s) (R : List Nat × Int) (hR : R = encOut l s) :
    Calls Tryz.prog 13 #[.slice a l.length cap] w fun e w' => GaveN w w' R e := by
  refine (fenc_full w s a cap l hl hll hs R hR).mono ?_
  rintro e w' ⟨v, h1, h2, -, h3⟩
  exact ⟨v, h1, h2, h3⟩
theorem kind_first {l : List Nat} {x : List Int} (h : decD (unpack l) = some x) : ∃ b : Nat, l[0]? = some b ∧ kindOut l = (b : Int) := by
  cases l with
  | nil => rw [unpack_nil] at h; cases h
  | cons b l =>
    refine ⟨b, rfl, ?_⟩
    unfold kindOut
    rw [h]
    rfl
set_option maxHeartbeats 1000000 in
theorem fkind_any (w : World) (v : Value) (l : List Nat) (h : SlAt w v l) (hl : l.length ≤ 1000000) (hby : ∀ x ∈ l, x < 256) (k : Int) (hk : k = kindOut l) :
    Calls Tryz.prog 14 #[v] w fun e w' => e = .returned (.int .i64 k) ∧ Below w.heap.size w w' := by
  have HL := hid_of h
  have HS := hid_of hby
  cases hd : decD (unpack l) with
  | none =>
    have HR : Hid (([], 2) = decOut 2 l) := by show _ = _; unfold decOut; rw [hd]
    have HK : Hid (k = -1) := by show _ = _; rw [hk]; unfold kindOut; rw [hd]
    clear h hby hk hd
    go_enter Tryz.func14, Tryz.ntmps14
    go_wp2_with fail
    refine (fdec_any w v l HL.out hl HS.out _ HR.out).mono ?_
    rintro e w1 hg
    obtain ⟨a1, c1, rfl, -, -, hb1⟩ := hg.ok
    have HB1 := hid_of hb1
    clear hg hb1
    go_wp2_with fail
    go_ret
    rw [HK.out]
    exact ⟨rfl, HB1.out⟩
  | some x =>
    have HR : Hid ((x, 0) = decOut 2 l) := by show _ = _; unfold decOut; rw [hd]
    obtain ⟨b, hb, hkb⟩ := kind_first hd
    have HK : Hid (k = (b : Int)) := by show _ = _; rw [hk, hkb]
    obtain ⟨sa, sc, rfl, hcell⟩ := h
    obtain ⟨bb, off, rfl, hc⟩ := hcell 0 b hb
    rw [Nat.add_zero] at hc
    have hlp : 0 < l.length := (List.getElem?_eq_some_iff.1 hb).1
    have hb256 := hby b (List.mem_of_getElem? hb)
    clear hby hk hd hcell hkb hb
    go_enter Tryz.func14, Tryz.ntmps14
    go_wp2_with fail
    refine (fdec_any w _ l HL.out hl HS.out _ HR.out).mono ?_
    rintro e w1 hg
    obtain ⟨a1, c1, rfl, -, -, hb1⟩ := hg.ok
    have hc1 : w1.cell? ⟨bb, off, none⟩ = some (.int .u8 (b : Int)) := (hb1.cell (p := ⟨bb, off, none⟩) (World.block_lt_of_cell? w _ hc)).trans hc
    have HB1 := hid_of hb1
    clear hg hb1
    go_wp2_with fail
    go_ret
    rw [HK.out]
    exact ⟨rfl, HB1.out⟩

end Go.Proofs.YtlonnoapbfjomabGreat
