/- RiceParams: the walk. -/
import Derived.Test.YtiimgkkagfbkmaaRice3
namespace Go.Proofs.Ytiimgkkagfbkmaa
set_option linter.unusedVariables false
set_option linter.unusedSimpArgs false
open Go.RowKit Dg

theorem take_map_next (l : List Int) (f : Int → Int) (n j : Nat) (x : Int) (hx : l[j]? = some x) (hj : j < n) : ((l.take n).map f).take (j + 1) = ((l.take n).map f).take j ++ [f x] := by
  rw [List.take_add_one]
  congr 1
  simp [List.getElem?_take, hj, hx]

set_option maxRecDepth 100000 in
set_option maxHeartbeats 4000000 in
theorem params_any (W : World) (a : Option Addr) (len cap : Nat) (z : List Int) (hrow : IsRow .i64 W a len cap z) :
    Calls Try.prog 4 #[.slice a len cap] W fun e W' => e = .returned (.bool true) ∧ Below W.heap.size W W' := by
  obtain ⟨l, hl, hI, hat, hle, hm, hnone, hblk⟩ := hrow.ints
  obtain ⟨i0, hi, hz0, hz1, hz2⟩ := info_parts Try.info3
  unfold maxLen at hm
  subst hl
  obtain ⟨zs, hzs⟩ : ∃ zs, zs = (l.take 40).map (fun x => x % 67108864) := ⟨_, rfl⟩
  have hzl : zs.length ≤ 40 ∧ zs.length ≤ l.length ∧ (l.length ≤ zs.length ∨ 40 ≤ zs.length) := by rw [hzs]; simp; omega
  obtain ⟨hz40, hzle, hzor⟩ := hzl
  have HZ : Hid (zs = (l.take 40).map (fun x => x % 67108864)) := hzs
  have HAT : Hid (IntsAt W a l) := hat
  have HI : Hid (∀ x ∈ l, I64 x) := hI
  have HN : Hid (∀ x ∈ zs, isNum x = true) := by
    intro x hx
    rw [hzs] at hx
    obtain ⟨y, _, rfl⟩ := List.mem_map.1 hx
    show isNum (y % 67108864) = true
    simp [isNum]; omega
  clear hzs hat hI hrow hblk
  go_enter Try.func4, Try.ntmps4
  go_wp2
  go_loopw [3, 4] (fun v i wr => ∃ (j : Nat), i = .int .i64 (j : Int) ∧ j ≤ zs.length ∧ Hid (OwnInts wr W.heap.size v (zs.take j)) ∧ Hid (Below W.heap.size W wr)) (fun _ i _ => zs.length - (intOf i).toNat)
  case atStart => exact ⟨0, rfl, Nat.zero_le _, OwnInts.nil _ _, Below.refl _ _⟩
  case round =>
    obtain ⟨j, rfl, hj, ho, hb⟩ := hrel
    by_cases hjn : j < zs.length
    · have hj40 : j < 40 := by omega
      have hjl : j < l.length := by omega
      obtain ⟨x, hx⟩ : ∃ x, l[j]? = some x := ⟨l[j], by simp [hjl]⟩
      obtain ⟨b, off, rfl, hc⟩ := HAT.out j x hx
      have hxi : I64 x := HI.out x (List.mem_of_getElem? hx)
      obtain ⟨hx1, hx2⟩ := hxi
      have hc' : wr.cell? ⟨b, off + j, none⟩ = some (.int .i64 x) := by
        rw [hb.out.cell (p := ⟨b, off + j, none⟩) (World.block_lt_of_cell? W _ hc)]
        exact hc
      have HX : Hid (l[j]? = some x) := hx
      have hsz : W.heap.size ≤ wr.heap.size := hb.out.size
      have hlt : (zs.take j).length ≤ 1000000 := by simp; omega
      clear hc hx
      go_wp2_with first
        | (go_at_call 9; refine (within_any _ _ _ (by omega) (by omega) (by decide) (by decide)).mono ?_; rintro e w2 ⟨rfl, rfl⟩)
        | (at_builtin; go_must (refine wpList_append_int _ rfl (.tmp 22) (.tmp 28) 26 rfl W.heap.size i0 Try.underlying26 hi hz0 hz1 hz2 _ (zs.take j) rfl ho.out _ rfl hlt hsz ?_))
      intro v' w' H1 H2
      go_wp2
      go_roundw
      case rel =>
        refine ⟨j + 1, by go_num, by omega, ?_, hb.out.trans H2.out⟩
        have := H1.out
        show OwnInts _ _ _ _
        rw [HZ.out, take_map_next l _ 40 j x HX.out hj40, ← HZ.out]
        exact this
      case measure => simp [intOf]; omega
    · have ej : j = zs.length := by omega
      subst ej
      have ho' := ho.out
      rw [List.take_length] at ho'
      obtain ⟨a', cap', rfl, hat', hor⟩ := ho'.slice
      have HO : Hid (IntsAt wr a' zs) := hat'
      have HOR : Hid (a' = none ∧ zs = [] ∧ cap' = 0 ∨ ∃ g, a' = some ⟨g, 0, none⟩) := by
        rcases hor with h | ⟨g, h, _⟩
        · exact .inl h
        · exact .inr ⟨g, h⟩
      have hsz : W.heap.size ≤ wr.heap.size := hb.out.size
      obtain ⟨bk, bs, hbest⟩ : ∃ (bk : Nat) (bs : Int), bestTo zs 24 = (bk, bs) := ⟨_, _, rfl⟩
      have HBEST : Hid (bestTo zs 24 = (bk, bs)) := hbest
      have HLE : Hid (∀ p : Nat, p ≤ 24 → bs ≤ sumSize zs p ∧ (p < bk → bs < sumSize zs p) ∧ (p = bk → sumSize zs p = bs)) := by
        intro p hp
        have h1 := bestTo_least zs 24 p hp
        have h2 := bestTo_size zs 24
        rw [hbest] at h1 h2
        exact ⟨h1.1, h1.2, fun e => by rw [e]; exact h2.symm⟩
      clear ho' hat' hor hbest ho
      have hcc : (zs.length < l.length ∧ 40 ≤ zs.length) ∨ l.length ≤ zs.length := by omega
      have hzz : zs.length ≤ 1000000 := by omega
      obtain ⟨zs1, hz1e⟩ : ∃ zs1, zs1 = zs ++ [-1] := ⟨_, rfl⟩
      have HB1 : Hid (∃ x ∈ zs1, isNum x = false) := ⟨-1, by rw [hz1e]; simp, by decide⟩
      have hz41 : zs1.length ≤ 4096 := by rw [hz1e]; simp; omega
      have HZ41 : Hid (zs1.length ≤ 4096) := hz41
      have HZ1 : Hid (zs1 = zs ++ [-1]) := hz1e
      clear hzor HAT HI hnone hle hm hz41 hz1e
      have hcc : (zs.length < l.length ∧ decide ((zs.length : Int) < 40) = false) ∨ l.length ≤ zs.length := by
        rcases hcc with ⟨h1, h2⟩ | h1
        · exact .inl ⟨h1, by simp; omega⟩
        · exact .inr h1
      rcases hcc with ⟨hc, hc'⟩ | hc
      all_goals
        go_wp2_with (go_at_call 13; refine (best_all _ _ _ zs HO.out (by omega) HN.out bk bs HBEST).mono ?_; rintro e w2 ⟨rfl, rfl⟩)
        go_loopw [7] (fun i ws => ∃ (p : Nat), i = .int .i64 (p : Int) ∧ p ≤ 25 ∧ wr = ws) (fun i _ => 25 - (intOf i).toNat)
        case atStart => exact ⟨0, rfl, Nat.zero_le _, rfl⟩
        case round =>
          obtain ⟨p, rfl, hp, rfl⟩ := hrel
          by_cases hp24 : p ≤ 24
          · have hpb : decide ((p : Int) ≤ 24) = true := by simp; omega
            go_wp2
            go_loopw [8, 41] (fun s i ws => ∃ (j : Nat) (t : Int), i = .int .i64 (j : Int) ∧ s = .int .i64 t ∧ j ≤ zs.length ∧ Hid (t = sumSize (zs.take j) p) ∧ 0 ≤ t ∧ t ≤ 56 * j ∧ wr = ws) (fun s i _ => zs.length - (intOf i).toNat)
            case atStart => exact ⟨0, 0, rfl, rfl, Nat.zero_le _, rfl, by decide, by decide, rfl⟩
            case round =>
              obtain ⟨j, t, rfl, rfl, hj, ht, ht0, ht1, rfl⟩ := hrel
              by_cases hjn : j < zs.length
              · obtain ⟨x, hx⟩ : ∃ x, zs[j]? = some x := ⟨zs[j], by simp [hjn]⟩
                obtain ⟨b, off, rfl, hcell⟩ := HO.out j x hx
                obtain ⟨sz, hsz⟩ : ∃ sz, sz = sizeOf1 x p := ⟨_, rfl⟩
                have hbd := sizeOf1_bounds x p
                rw [← hsz] at hbd
                obtain ⟨hb1, hb2⟩ := hbd
                have HSZ : Hid (sz = sizeOf1 x p) := hsz
                have HX : Hid (zs[j]? = some x) := hx
                clear hx hsz
                go_wp2_with (go_at_call 10; refine (size_any x p _).mono ?_; rw [← HSZ.out]; rintro e w2 ⟨rfl, rfl⟩)
                go_roundw
                case rel =>
                  have HT : Hid (t + sz = sumSize (zs.take (j + 1)) p) := by show _ = _; rw [sumSize_take zs p j x HX.out, ← ht.out, ← HSZ.out]
                  have hg1 : 0 ≤ t + sz := by omega
                  have hg2 : t + sz ≤ 56 * ((j + 1 : Nat) : Int) := by omega
                  first
                    | exact ⟨j + 1, t + sz, by go_num, rfl, by omega, HT, hg1, hg2, by trivial⟩
                    | ((repeat apply Exists.intro); refine ⟨?_, rfl⟩; exact ⟨j + 1, t + sz, by go_num, rfl, by omega, HT, hg1, hg2, by trivial⟩)
                case measure => simp [intOf]; omega
              · have e : j = zs.length := by omega
                subst e
                have e2 := ht.out
                rw [List.take_length] at e2
                obtain ⟨f1, f2, f3⟩ := HLE.out p hp24
                rw [← e2] at f1 f2 f3
                clear e2 ht
                have cs : (bs < t ∧ p < bk) ∨ (bs < t ∧ bk < p) ∨ (t = bs ∧ p = bk) ∨ (t = bs ∧ bk < p) := by omega
                clear f1 f2 f3
                rcases cs with ⟨c1, c2⟩ | ⟨c1, c2⟩ | ⟨rfl, rfl⟩ | ⟨rfl, c2⟩
                all_goals
                  go_wp2
                  go_roundw
                  case rel =>
                    first
                      | exact ⟨p + 1, by go_num, by omega, by trivial⟩
                      | ((repeat apply Exists.intro); refine ⟨?_, rfl⟩; exact ⟨p + 1, by go_num, by omega, by trivial⟩)
                  case measure => simp [intOf]; omega
          · have hpb : decide ((p : Int) ≤ 24) = false := by simp; omega
            go_wp2_with first
              | (go_at_call 14; refine (copyInt_any _ _ _ zs HO.out (by omega) HOR.out).mono ?_; rintro e w2 ⟨v2, rfl, ho2, hb2⟩; have HO2 : Hid (OwnInts w2 wr.heap.size v2 zs) := ho2; have HB2 : Hid (Below wr.heap.size wr w2) := hb2; have hs2 : wr.heap.size ≤ w2.heap.size := hb2.size; clear ho2 hb2)
              | (at_builtin; go_must (refine wpList_append_int _ rfl (.tmp 78) (.tmp 79) 26 rfl wr.heap.size i0 Try.underlying26 hi hz0 hz1 hz2 _ zs rfl HO2.out _ rfl hzz hs2 ?_))
            intro v3 w3 H1 H2
            have H1' := H1.out
            rw [← HZ1.out] at H1'
            clear H1
            obtain ⟨a3, cap3, rfl, hat3, _⟩ := H1'.slice
            have HAT3 : Hid (IntsAt w3 a3 zs1) := hat3
            clear H1'
            clear hat3
            go_wp2_with first
              | (go_at_call 13; refine (best_bad _ _ _ zs1 HAT3.out HZ41.out HB1.out).mono ?_; rintro e w4 ⟨rfl, rfl⟩)
              | (go_at_call 12; refine (wakes_any _).mono ?_; rintro e w4 ⟨rfl, rfl⟩)
            go_ret
            exact ⟨rfl, (hb.out.trans (HB2.out.mono hsz)).trans (H2.out.mono hsz)⟩

end Go.Proofs.Ytiimgkkagfbkmaa
