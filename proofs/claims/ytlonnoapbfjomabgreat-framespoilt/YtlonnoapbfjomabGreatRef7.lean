/- The document's own answers: Bytes; and Spoil. -/
import Derived.Test.YtlonnoapbfjomabGreatRef6
namespace Go.Proofs.YtlonnoapbfjomabGreat
set_option linter.unusedVariables false
set_option linter.unusedSimpArgs false
open Go.RowKit Dg

/-- N bytes of digits. -/
def packN (N : Nat) (ds : List Bool) : List Nat := (List.range N).map (byteAt ds)
@[simp] theorem length_packN (N : Nat) (ds : List Bool) : (packN N ds).length = N := by simp [packN]
theorem packN_get (N : Nat) (ds : List Bool) (k : Nat) (h : k < N) : (packN N ds)[k]? = some (byteAt ds k) := by simp [packN, h]
theorem packN_snoc (N : Nat) (ds : List Bool) (d : Bool) (h : ds.length / 8 < N) : packN N (ds ++ [d]) = (packN N ds).set (ds.length / 8) (byteAt (ds ++ [d]) (ds.length / 8)) := by
  apply List.ext_getElem?
  intro k
  by_cases hk : k < N
  · rw [packN_get _ _ _ hk, List.getElem?_set]
    by_cases he : ds.length / 8 = k
    · rw [if_pos he, if_pos (by simp; omega)]; rw [he]
    · rw [if_neg he, packN_get _ _ _ hk, byteAt_snoc_other _ _ _ (by omega)]
  · rw [List.getElem?_eq_none (by simp; omega), List.getElem?_eq_none (by simp; omega)]
theorem byteAt_nil (k : Nat) : byteAt [] k = 0 := by simp [byteAt, dg]
theorem packN_nil (N : Nat) : packN N [] = List.replicate N 0 := by
  apply List.ext_getElem?
  intro k
  by_cases hk : k < N
  · rw [packN_get _ _ _ hk, byteAt_nil, List.getElem?_replicate, if_pos hk]
  · rw [List.getElem?_eq_none (by simp; omega), List.getElem?_eq_none (by simp; omega)]

theorem made_u8 (n : Nat) : (madeCells (Value.int .u8 0).cells (n * 1)).toList = u8s (List.replicate n 0) := by
  apply List.ext_getElem?
  intro k
  by_cases hk : k < n
  · simp [madeCells, u8s, hk, Value.cells, Nat.mod_one]
  · rw [List.getElem?_eq_none (by simp [madeCells]; omega), List.getElem?_eq_none (by simp; omega)]

set_option maxHeartbeats 2000000 in
theorem rbytes_raw (w : World) (v : Value) (ds : List Bool) (hbt : BtAt w v ds) (hsm : ds.length ≤ 1000000) (N : Nat) (hN : N = (ds.length + 7) / 8) :
    Calls Tryz.prog 12 #[v] w fun e w' => e = .returned (.slice (some ⟨w.heap.size, 0, none⟩) N N) ∧ w'.ownsRow w.heap.size 5 1 (.slice (some ⟨w.heap.size, 0, none⟩) N N) N (u8s (packN N ds)) ∧ Below w.heap.size w w' := by
  obtain ⟨i0, hi, hz0, hz1, hz2⟩ := info_parts Tryz.info5
  obtain ⟨a0, c0, rfl⟩ := hbt.form
  have HBT : Hid (BtAt w (.slice a0 ds.length c0) ds) := hbt
  have HN : Hid (N = (ds.length + 7) / 8) := hN
  have hNi : ((ds.length : Int) + 7) / 8 = (N : Int) := by omega
  clear hbt hN
  obtain ⟨g, hg⟩ : ∃ g, g = w.heap.size := ⟨_, rfl⟩
  have HG : Hid (g = w.heap.size) := hg
  go_enter Tryz.func12, Tryz.ntmps12
  go_wp2_with (at_make; go_must (refine wpList_make_full _ rfl _ _ 25 rfl w.heap.size 5 i0 (.int .u8 0) 1 Tryz.underlying25 hi hz0 hz1 _ _ _ _ N rfl rfl ?e1 ?e2 ?b1 ?b2 ?b3 ?_))
  case e1 => exact hNi
  case e2 => exact hNi
  case b1 => rw [hz2]; have := HN.out; omega
  case b2 => unfold maxLen; have := HN.out; omega
  case b3 => exact Nat.le_refl _
  intro w1 hown hgr
  have HO1 : Hid (w1.ownsRow w.heap.size 5 1 (.slice (some ⟨g, 0, none⟩) N N) N (u8s (packN N []))) := by
    rw [packN_nil, ← made_u8, hg, Nat.mul_one]; exact hown
  have HB1 : Hid (Below w.heap.size w w1) := (Below.refl _ _).grown hgr (Nat.le_refl _) (fun k hk => by cases hk)
  rw [← hg]
  clear hown hgr hg
  go_wp2
  go_loopw [12] (fun i wr => ∃ j : Nat, j ≤ ds.length ∧ i = .int .i64 j ∧ Hid (wr.ownsRow w.heap.size 5 1 (.slice (some ⟨g, 0, none⟩) N N) N (u8s (packN N (ds.take j)))) ∧ Hid (Below w.heap.size w wr)) (fun i _ => ds.length - (intOf i).toNat)
  case atStart => exact ⟨0, Nat.zero_le _, rfl, HO1.out, HB1.out⟩
  case round =>
    obtain ⟨j, hj, rfl, ho, hbl⟩ := hrel
    by_cases hjl : j < ds.length
    · obtain ⟨d, hd⟩ : ∃ d, ds[j]? = some d := ⟨ds[j], by simp [hjl]⟩
      have hcb : ∃ b off, a0 = some ⟨b, off, none⟩ ∧ wr.cell? ⟨b, off + j, none⟩ = some (.int .u8 (d.toNat : Int)) := by
        rcases HBT.out with ⟨_, h0⟩ | ⟨b, off, cap, he, hb, hl, hm, hc⟩
        · rw [h0] at hjl; simp at hjl
        · cases he
          exact ⟨b, off, rfl, by rw [hbl.out.cell (p := ⟨b, off + j, none⟩) hb]; exact hc j d hd⟩
      obtain ⟨b, off, rfl, hcell⟩ := hcb
      have hj8 : j / 8 < N := by have := HN.out; omega
      obtain ⟨y, hy⟩ : ∃ y, y = byteAt (ds.take j) (j / 8) := ⟨_, rfl⟩
      have hrow : wr.cell? ⟨g, j / 8, none⟩ = some (.int .u8 (y : Int)) ∧ wr.frozen? ⟨g, j / 8, none⟩ = false := by
        rcases ho.out.2 with ⟨e1, _⟩ | ⟨g', cap', cur, hv, hgb, hh, hncap, _, hcs, htake⟩
        · cases e1
        · cases hv
          refine ⟨?_, by simp [World.frozen?, hh]⟩
          have e : (u8s (packN N (ds.take j)))[j / 8]? = some (.int .u8 (y : Int)) := by rw [u8s_get, packN_get _ _ _ hj8, hy]; rfl
          rw [← htake, List.getElem?_take, if_pos (by omega)] at e
          simp only [World.cell?, hh]
          simpa using e
      obtain ⟨hrc, hrf⟩ := hrow
      have HOR : Hid (bits BinOp.or IntKind.u8 (y : Int) ((d.toNat : Int) * 2 ^ (7 - j % 8) % 256) = (byteAt (ds.take j ++ [d]) (j / 8) : Nat)) := by
        have h1 := byteAt_or (ds.take j) d
        have h2 : (ds.take j).length = j := by simp; omega
        rw [h2, ← hy] at h1
        exact h1
      have HT : Hid (ds.take (j + 1) = ds.take j ++ [d]) := by show _ = _; rw [List.take_add_one, hd]; rfl
      clear hd hy
      go_wp2
      go_region
      all_goals go_wp2
      all_goals go_roundw
      case rel =>
        refine ⟨j + 1, by omega, by go_num, ?_, ?_⟩
        · rw [HT.out, HOR.out, packN_snoc N (ds.take j) d (by simp; omega), ← u8s_set]
          have h2 : (ds.take j).length = j := by simp; omega
          rw [h2]
          exact ownsRow_set ho.out (j / 8) hj8 _
        · exact (hbl.out.setCell (by show _ ≤ g; have := HG.out; omega) _).drew
      case measure => simp [intOf]; omega
    · have e : j = ds.length := by omega
      go_wp2
      go_ret
      have h1 := ho.out
      rw [e, List.take_length] at h1
      refine ⟨by rw [← HG.out]; rfl, by rw [← HG.out] at h1 ⊢; exact h1, hbl.out⟩

theorem rbytes_any (w : World) (v : Value) (ds : List Bool) (l : List Nat) (hl : l = pack ds) (hbt : BtAt w v ds) (hsm : ds.length ≤ 1000000) :
    Calls Tryz.prog 12 #[v] w fun e w' => e = .returned (.slice (some ⟨w.heap.size, 0, none⟩) l.length l.length) ∧ NewBytes w w' l := by
  have e : l = packN ((ds.length + 7) / 8) ds := hl
  have hll : l.length = (ds.length + 7) / 8 := by rw [e]; simp
  refine (rbytes_raw w v ds hbt hsm _ rfl).mono ?_
  rintro e' w' ⟨rfl, h1, h2⟩
  rw [← hll] at h1 ⊢
  refine ⟨rfl, ?_, h2⟩
  rw [e]
  rw [hll] at h1
  simpa using h1

end Go.Proofs.YtlonnoapbfjomabGreat
