/- FixedRestores: the walk of the law. -/
import Derived.Test.YtepnjglhchbknaaFix5
namespace Go.Proofs.Ytepnjglhchbknaa
set_option linter.unusedVariables false
set_option linter.unusedSimpArgs false
open Go.RowKit Dg

theorem restZ_len (cs : List Int) (res : List Int) : ∀ (x y : List Int), restZ cs x res = some y → y.length = x.length + res.length := by
  induction res with
  | nil => intro x y h; simp [restZ] at h; subst h; simp
  | cons r rs ih =>
    intro x y h
    simp only [restZ] at h
    split at h
    · have := ih _ _ h
      simp at this ⊢
      omega
    · cases h
theorem restOut_len (warm res : List Int) : (restOut warm res).1.length ≤ warm.length + res.length := by
  unfold restOut
  split
  · simp
  split
  · split
    · simp
    · rename_i x hx
      have := restZ_len _ _ _ _ hx
      split <;> simp <;> omega
  · simp

set_option maxRecDepth 100000 in
set_option maxHeartbeats 4000000 in
theorem xrest_any (W : World) (a : Option Addr) (len cap : Nat) (z : List Int) (ra : Option Addr) (rlen rcap : Nat) (rz : List Int) (wild small : Bool) (hr : IsRow .i64 W a len cap z) (hrr : IsRow .i64 W ra rlen rcap rz) :
    Calls Try.prog 7 #[.slice a len cap, .slice ra rlen rcap, .bool wild, .bool small] W fun e W' => e = .returned (.bool true) ∧ Below W.heap.size W W' := by
  obtain ⟨i0, hi, hz0, hz1, hz2⟩ := info_parts Try.info3
  obtain ⟨l, hll, hI, hat, hle, hm, hnone, hblk⟩ := hr.ints
  obtain ⟨rl, hrl, hrI, hrat, hrle, hrm, hrnone, hrblk⟩ := hrr.ints
  subst hll
  obtain ⟨rs, hrs⟩ : ∃ rs, rs = rl.take 70 := ⟨_, rfl⟩
  have HRL : Hid (min rlen 70 = rs.length) := by show _ = _; rw [hrs, ← hrl]; simp; omega
  have hrs70 : rs.length ≤ 70 := by rw [hrs]; simp; omega
  have HA : Hid (IntsAt W a l) := hat
  have HI : Hid (∀ x ∈ l, I64 x) := hI
  have HM : Hid (l.length ≤ maxLen) := Nat.le_trans hle hm
  have HRA : Hid (IntsAt W ra rs) := by rw [hrs]; exact hrat.take 70
  have HRI : Hid (∀ x ∈ rs, I64 x) := by rw [hrs]; exact fun x hx => hrI x (List.mem_of_mem_take hx)
  have HRC : Hid (rlen ≤ rcap ∧ rcap ≤ maxLen ∧ (ra = none → rlen = 0 ∧ rcap = 0)) := ⟨hrle, hrm, hrnone⟩
  clear hat hI hle hm hnone hblk hr hrl hrI hrat hrle hrm hrnone hrblk hrr hrs
  go_enter Try.func7, Try.ntmps7
  go_wp2_with fail
  refine (samples_any W a cap 6 l wild HA.out HM.out HI.out (by decide)).mono ?_
  rintro e w1 ⟨v1, xs, rfl, hv1, hxl, -, -, hb1⟩
  obtain ⟨a1, c1, rfl, hn1, -, -⟩ := hv1.ns
  have hx6 : xs.length ≤ 6 := by omega
  have HB1 : Hid (Below W.heap.size W w1) := hb1
  have HN1 : Hid (Ns w1 a1 c1 xs) := hn1
  have HR1 : Hid (IntsAt w1 ra rs) := HRA.out.mono hb1
  have hs1 : W.heap.size ≤ w1.heap.size := hb1.size
  clear hv1 hxl hb1 hn1 HA HI HM HRA
  go_wp2_with fail
  refine (cutInt_any w1 ra rlen rcap 70 (by decide) HRC.out.1 HRC.out.2.1 HRC.out.2.2).mono ?_
  rw [HRL.out]
  rintro e w2 ⟨rfl, rfl⟩
  clear HRC
  cases small
  case false =>
    have HQB : Hid (Below W.heap.size W w1) := HB1.out
    have HQN : Hid (Ns w1 a1 c1 xs) := HN1.out
    have HQR : Hid (IntsAt w1 ra rs) := HR1.out
    have HQI : Hid (∀ x ∈ rs, I64 x) := HRI.out
    have hsq : W.heap.size ≤ w1.heap.size := hs1
    clear HB1 HN1 HR1 HRI hs1
    obtain ⟨⟨L, k⟩, hR⟩ : ∃ R, R = restOut xs rs := ⟨_, rfl⟩
    have HR := hid_of hR
    have hLl : L.length ≤ 100 := by
      have := restOut_len xs rs
      rw [← hR] at this
      simp at this
      omega
    clear hR
    go_wp2_with fail
    refine (frest_any w1 a1 ra c1 rcap xs rs HQN.out HQR.out (by omega) (by omega) HQI.out _ HR.out).mono ?_
    rintro e w3 hg
    obtain ⟨a3, c3, rfl, -, hn3, hb3⟩ := hg.ok
    have HB3 : Hid (Below W.heap.size W w3) := HQB.out.trans (hb3.mono hsq)
    have HN3 : Hid (IntsAt w3 a3 L) := hn3.at_
    have HQN' : Hid (Ns w3 a1 c1 xs) := HQN.out.mono hb3
    have HQR' : Hid (IntsAt w3 ra rs) := HQR.out.mono hb3
    have hs3 : W.heap.size ≤ w3.heap.size := HB3.out.size
    clear hg hn3 hb3 HQN HQR HQB
    go_wp2_with fail
    refine (rrest_any w3 a1 ra c1 rcap xs rs HQN'.out HQR'.out (by omega) (by omega) HQI.out _ HR.out).mono ?_
    rintro e w4 hg
    obtain ⟨a4, c4, rfl, -, hn4, hb4⟩ := hg.ok
    have HB4 : Hid (Below W.heap.size W w4) := HB3.out.trans (hb4.mono hs3)
    have HN3' : Hid (IntsAt w4 a3 L) := HN3.out.mono hb4
    have HN4 : Hid (IntsAt w4 a4 L) := hn4.at_
    have hs4 : W.heap.size ≤ w4.heap.size := HB4.out.size
    clear hg hn4 hb4 HN3 HQN' HQR' HB3
    go_wp2_with fail
    refine (sameInt_any w4 a3 a4 c3 c4 L HN3'.out HN4.out (by omega)).mono ?_
    rintro e w5 ⟨rfl, n5, rfl⟩
    go_wp2_with fail
    refine (wakes5_any _).mono ?_
    rintro e w6 ⟨rfl, hb6⟩
    have HB6 : Hid (Below W.heap.size W w6) := (below_drewN HB4.out n5).trans (hb6.mono hs4)
    clear hb6
    go_wp2
    go_ret
    exact ⟨rfl, HB6.out⟩
  case true =>
    have HN1O : Hid (Ns w1 a1 c1 xs) := HN1.out
    go_wp2_with fail
    go_loopw [9, 23] (fun v i wr => ∃ (j : Nat) (zs : List Int), j ≤ rs.length ∧ i = .int .i64 (j : Int) ∧ zs.length ≤ 1000000 ∧ Hid (zs.length = j) ∧ Hid (∀ x ∈ zs, I64 x) ∧ Hid (OwnInts wr w1.heap.size v zs) ∧ Hid (Below w1.heap.size w1 wr)) (fun _ i _ => rs.length - (intOf i).toNat)
    case atStart => exact ⟨0, [], Nat.zero_le _, rfl, by decide, rfl, fun x hx => by simp at hx, OwnInts.nil _ _, Below.refl _ _⟩
    case round =>
      obtain ⟨j, zs, hj, rfl, hzl, HZL, HZI, ho, hb⟩ := hrel
      have hsz : w1.heap.size ≤ wr.heap.size := hb.out.size
      by_cases hjn : j < rs.length
      · obtain ⟨x, hx⟩ : ∃ x, rs[j]? = some x := ⟨rs[j], by simp [hjn]⟩
        obtain ⟨b, off, rfl, hc⟩ := HR1.out.mono hb.out j x hx
        obtain ⟨hx1, hx2⟩ := HRI.out x (List.mem_of_getElem? hx)
        clear hx
        go_wp2_with first
          | (go_at_call 9; refine (within_any _ _ _ (by omega) (by omega) (by decide) (by decide)).mono ?_; rintro e w3 ⟨rfl, rfl⟩)
          | (at_builtin; go_must (refine wpList_append_int _ rfl (.tmp 26) (.tmp 33) 23 rfl w1.heap.size i0 Try.underlying23 hi hz0 hz1 hz2 _ zs rfl ho.out _ rfl hzl hsz ?_))
        intro v' w' h1 h2
        have HB' : Hid (Below w1.heap.size w1 w') := hb.out.trans h2.out
        clear h2
        go_wp2_with fail
        refine ⟨⟨j + 1, zs ++ [x % 41 - 20], by omega, by go_num, by have := HZL.out; simp; omega, by show _ = _; simp [HZL.out], ?_, h1, HB'⟩, by (simp [intOf]) <;> omega⟩
        intro y hy
        rcases List.mem_append.1 hy with h | h
        · exact HZI.out y h
        · simp at h; subst h; unfold I64; omega
      · have hz70 : zs.length ≤ 70 := by have := HZL.out; omega
        obtain ⟨sa, sc, rfl, hns, -, -⟩ := ho.out.ns
        have HQB : Hid (Below W.heap.size W wr) := HB1.out.trans (hb.out.mono hs1)
        have HQN : Hid (Ns wr a1 c1 xs) := HN1O.out.mono hb.out
        have HQR : Hid (IntsAt wr sa zs) := hns.at_
        have HQI : Hid (∀ x ∈ zs, I64 x) := HZI.out
        have hsq : W.heap.size ≤ wr.heap.size := HQB.out.size
        clear hns ho hb HZL HN1 HN1O HR1 HB1
        obtain ⟨⟨L, k⟩, hR⟩ : ∃ R, R = restOut xs zs := ⟨_, rfl⟩
        have HR := hid_of hR
        have hLl : L.length ≤ 100 := by
          have := restOut_len xs zs
          rw [← hR] at this
          simp at this
          omega
        clear hR
        go_wp2_with fail
        refine (frest_any wr a1 sa c1 sc xs zs HQN.out HQR.out (by omega) (by omega) HQI.out _ HR.out).mono ?_
        rintro e w3 hg
        obtain ⟨a3, c3, rfl, -, hn3, hb3⟩ := hg.ok
        have HB3 : Hid (Below W.heap.size W w3) := HQB.out.trans (hb3.mono hsq)
        have HN3 : Hid (IntsAt w3 a3 L) := hn3.at_
        have HQN' : Hid (Ns w3 a1 c1 xs) := HQN.out.mono hb3
        have HQR' : Hid (IntsAt w3 sa zs) := HQR.out.mono hb3
        have hs3 : W.heap.size ≤ w3.heap.size := HB3.out.size
        clear hg hn3 hb3 HQN HQR HQB
        go_wp2_with fail
        refine (rrest_any w3 a1 sa c1 sc xs zs HQN'.out HQR'.out (by omega) (by omega) HQI.out _ HR.out).mono ?_
        rintro e w4 hg
        obtain ⟨a4, c4, rfl, -, hn4, hb4⟩ := hg.ok
        have HB4 : Hid (Below W.heap.size W w4) := HB3.out.trans (hb4.mono hs3)
        have HN3' : Hid (IntsAt w4 a3 L) := HN3.out.mono hb4
        have HN4 : Hid (IntsAt w4 a4 L) := hn4.at_
        have hs4 : W.heap.size ≤ w4.heap.size := HB4.out.size
        clear hg hn4 hb4 HN3 HQN' HQR' HB3
        go_wp2_with fail
        refine (sameInt_any w4 a3 a4 c3 c4 L HN3'.out HN4.out (by omega)).mono ?_
        rintro e w5 ⟨rfl, n5, rfl⟩
        go_wp2_with fail
        refine (wakes5_any _).mono ?_
        rintro e w6 ⟨rfl, hb6⟩
        have HB6 : Hid (Below W.heap.size W w6) := (below_drewN HB4.out n5).trans (hb6.mono hs4)
        clear hb6
        go_wp2
        go_ret
        exact ⟨rfl, HB6.out⟩

end Go.Proofs.Ytepnjglhchbknaa
