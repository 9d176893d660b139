/- Take, of the program and of the document. -/
import Derived.Test.YtdfgceplgcblkaaFld3
namespace Go.Proofs.Ytdfgceplgcblkaa
set_option linter.unusedVariables false
set_option linter.unusedSimpArgs false
open Go.RowKit Dg

/-- The numbers of such widths at the beginning of bytes, if there are so many. -/
def takeN (l : List Nat) : List Int → Option (List Int)
  | [] => some []
  | x :: ws => if 0 ≤ x ∧ x ≤ 7 ∧ x ≤ (l.length : Int) then (takeN (l.drop x.toNat) ws).map (((getN (l.take x.toNat) : Nat) : Int) :: ·) else none
theorem takeN_good (r : List Nat) (ws : List Int) (j k : Nat) (h : ws[j]? = some (k : Int)) (h7 : k ≤ 7) (hr : k ≤ r.length) (out : List Int) (T : Option (List Int)) (hT : T = (takeN r (ws.drop j)).map (out ++ ·)) :
    T = (takeN (r.drop k) (ws.drop (j + 1))).map ((out ++ [((getN (r.take k) : Nat) : Int)]) ++ ·) := by
  have hj : j < ws.length := (List.getElem?_eq_some_iff.1 h).1
  have e : ws[j] = (k : Int) := (List.getElem?_eq_some_iff.1 h).2
  rw [hT, List.drop_eq_getElem_cons hj, e]
  simp only [takeN]
  rw [if_pos ⟨by omega, by omega, by omega⟩, Int.toNat_natCast]
  cases takeN (r.drop k) (ws.drop (j + 1)) <;> simp
theorem takeN_bad (r : List Nat) (ws : List Int) (j : Nat) (x : Int) (h : ws[j]? = some x) (hx : ¬ (0 ≤ x ∧ x ≤ 7 ∧ x ≤ (r.length : Int))) (out : List Int) (T : Option (List Int)) (hT : T = (takeN r (ws.drop j)).map (out ++ ·)) : T = none := by
  have hj : j < ws.length := (List.getElem?_eq_some_iff.1 h).1
  have e : ws[j] = x := (List.getElem?_eq_some_iff.1 h).2
  rw [hT, List.drop_eq_getElem_cons hj, e]
  simp only [takeN]
  rw [if_neg hx]
  rfl
theorem takeN_end (r : List Nat) (ws : List Int) (out : List Int) (T : Option (List Int)) (hT : T = (takeN r (ws.drop ws.length)).map (out ++ ·)) : T = some out := by
  rw [hT, List.drop_length]
  simp [takeN]

/-- What a Take answers. -/
def Took (w w' : World) (T : Option (List Int)) (e : Ending) : Prop :=
  ∃ v, e = .returned (.tuple #[v, .bool T.isSome]) ∧ OwnInts w' w.heap.size v (T.getD []) ∧ Below w.heap.size w w'
theorem Took.none {w w' : World} {T : Option (List Int)} (hT : T = none) (hb : Below w.heap.size w w') : Took w w' T (.returned (.tuple #[.slice none 0 0, .bool false])) := by
  subst hT
  exact ⟨_, rfl, OwnInts.nil _ _, hb⟩

set_option maxRecDepth 100000 in
set_option maxHeartbeats 4000000 in
theorem ftake_any (w : World) (a wa : Option Addr) (cap wc : Nat) (l : List Nat) (ws : List Int) (h : Bs w a cap l) (hw : IntsAt w wa ws) (hl : l.length ≤ 1000000) (hwl : ws.length ≤ 1000000) (h256 : ∀ x ∈ l, x < 256) (hI : ∀ x ∈ ws, I64 x) (T : Option (List Int)) (hT : T = takeN l ws) :
    Calls Try.prog 19 #[.slice a l.length cap, .slice wa ws.length wc] w fun e w' => Took w w' T e := by
  obtain ⟨i0, hi, hz0, hz1, hz2⟩ := info_parts Try.info3
  have HW : Hid (IntsAt w wa ws) := hw
  have H0 : Hid (Bs w a cap l) := h
  have HI : Hid (∀ x ∈ ws, I64 x) := hI
  have H256 : Hid (∀ x ∈ l, x < 256) := h256
  have HT : Hid (T = takeN l ws) := hT
  clear hw h hI h256 hT
  go_enter Try.func19, Try.ntmps19
  go_wp2
  go_loopw [0, 6, 13] (fun b v i wr => ∃ (j ra rc : _) (r : List Nat) (out : List Int), j ≤ ws.length ∧ i = .int .i64 (j : Nat) ∧ b = .slice ra r.length rc ∧ r.length ≤ 1000000 ∧ out.length ≤ 1000000 ∧ Hid (out.length ≤ j) ∧ Hid (Bs w ra rc r) ∧ Hid (∀ x ∈ r, x < 256) ∧ Hid (OwnInts wr w.heap.size v out) ∧ Hid (T = (takeN r (ws.drop j)).map (out ++ ·)) ∧ Hid (Below w.heap.size w wr)) (fun _ _ i _ => ws.length - (intOf i).toNat)
  case atStart => exact ⟨0, a, cap, l, [], Nat.zero_le _, rfl, rfl, hl, by decide, Nat.zero_le _, H0.out, H256.out, OwnInts.nil _ _, by show _ = _; rw [HT.out]; simp, Below.refl _ _⟩
  case round =>
    obtain ⟨j, ra, rc, r, out, hj, rfl, rfl, hrl, hol, holj, hbs, hr256, ho, ht, hb⟩ := hrel
    by_cases hjn : j < ws.length
    · obtain ⟨x, hx⟩ : ∃ x, ws[j]? = some x := ⟨ws[j], by simp [hjn]⟩
      obtain ⟨b, off, rfl, hcell⟩ := HW.out j x hx
      have hcell' : wr.cell? ⟨b, off + j, none⟩ = some (.int .i64 x) := by
        rw [hb.out.cell (p := ⟨b, off + j, none⟩) (World.block_lt_of_cell? w _ hcell)]
        exact hcell
      obtain ⟨hx1, hx2⟩ := HI.out x (List.mem_of_getElem? hx)
      have HX : Hid (ws[j]? = some x) := hx
      clear hx hcell
      by_cases hneg : x < 0
      · go_wp2_with fail
        go_ret2
        exact Took.none (takeN_bad r ws j x HX.out (by omega) out T ht.out) hb.out
      · obtain ⟨k, rfl⟩ := Int.eq_ofNat_of_zero_le (show 0 ≤ x by omega)
        by_cases hlong : r.length < k
        · go_wp2_with fail
          go_ret2
          exact Took.none (takeN_bad r ws j k HX.out (by omega) out T ht.out) hb.out
        · have hkr : k ≤ r.length := by omega
          have hrc : r.length ≤ rc := hbs.out.le
          have hs1 := slice_hi ra r.length rc k (by omega)
          have hs2 := slice_lo ra r.length rc k hkr
          have HTK : Hid (SlAt wr (.slice ra k rc) (r.take k)) := (hbs.out.below hb.out).hi k hkr
          have htl : (r.take k).length = k := by simp; omega
          have HTL : Hid ((r.take k).length = k) := htl
          have HT256 : Hid (∀ x ∈ r.take k, x < 256) := fun x hx => hr256.out x (List.mem_of_mem_take hx)
          clear htl
          by_cases hk7 : k ≤ 7
          · obtain ⟨m, hm⟩ : ∃ m, m = getN (r.take k) := ⟨_, rfl⟩
            have HM : Hid (m = getN (r.take k)) := hm
            have hsz : w.heap.size ≤ wr.heap.size := hb.out.size
            clear hm
            go_wp2_with first
              | (go_at_call 12; refine (fget_ok _ _ _ HTK.out (by rw [HTL.out]; omega) HT256.out m HM.out).mono ?_; rintro e w2 ⟨rfl, rfl⟩)
              | (at_builtin; go_must (refine wpList_append_int _ rfl (.tmp 34) (.tmp 36) 33 rfl w.heap.size i0 Try.underlying33 hi hz0 hz1 hz2 _ out rfl ho.out (m : Int) rfl hol hsz ?_))
            intro v' w' h1 h2
            go_wp2_with fail
            refine ⟨⟨j + 1, lowA ra rc k, rc - k, r.drop k, out ++ [(m : Int)], by omega, by go_num, by rw [List.length_drop], by rw [List.length_drop]; omega, ?_, ?_, hbs.out.lo k hkr, fun x hx => hr256.out x (List.mem_of_mem_drop hx), h1, ?_, hb.out.trans h2.out⟩, by (simp [intOf]) <;> omega⟩
            · have := holj.out; simp; omega
            · have := holj.out; show _ ≤ _; simp; omega
            · show _ = _
              rw [HM.out]
              exact takeN_good r ws j k HX.out hk7 hkr out T ht.out
          · go_wp2_with (go_at_call 12; refine (fget_bad _ _ _ HTK.out (by rw [HTL.out]; omega) (by rw [HTL.out]; omega)).mono ?_; rintro e w2 ⟨rfl, rfl⟩)
            go_ret2
            exact Took.none (takeN_bad r ws j k HX.out (by omega) out T ht.out) hb.out
    · have e : j = ws.length := by omega
      subst e
      have e2 := takeN_end r ws out T ht.out
      go_wp2_with fail
      go_ret2
      refine ⟨_, by rw [e2]; rfl, ?_, hb.out⟩
      rw [e2]; exact ho.out

set_option maxRecDepth 100000 in
set_option maxHeartbeats 4000000 in
theorem rtakeN_any (w : World) (a wa : Option Addr) (cap wc : Nat) (l : List Nat) (ws : List Int) (h : Bs w a cap l) (hw : IntsAt w wa ws) (hl : l.length ≤ 1000000) (hwl : ws.length ≤ 1000000) (h256 : ∀ x ∈ l, x < 256) (hI : ∀ x ∈ ws, I64 x) (T : Option (List Int)) (hT : T = takeN l ws) :
    Calls Try.prog 20 #[.slice a l.length cap, .slice wa ws.length wc] w fun e w' => Took w w' T e := by
  obtain ⟨i0, hi, hz0, hz1, hz2⟩ := info_parts Try.info3
  have HW : Hid (IntsAt w wa ws) := hw
  have H0 : Hid (Bs w a cap l) := h
  have HI : Hid (∀ x ∈ ws, I64 x) := hI
  have H256 : Hid (∀ x ∈ l, x < 256) := h256
  have HT : Hid (T = takeN l ws) := hT
  clear hw h hI h256 hT
  go_enter Try.func20, Try.ntmps20
  go_wp2
  go_loopw [0, 6, 13] (fun b v i wr => ∃ (j ra rc : _) (r : List Nat) (out : List Int), j ≤ ws.length ∧ i = .int .i64 (j : Nat) ∧ b = .slice ra r.length rc ∧ r.length ≤ 1000000 ∧ out.length ≤ 1000000 ∧ Hid (out.length ≤ j) ∧ Hid (Bs w ra rc r) ∧ Hid (∀ x ∈ r, x < 256) ∧ Hid (OwnInts wr w.heap.size v out) ∧ Hid (T = (takeN r (ws.drop j)).map (out ++ ·)) ∧ Hid (Below w.heap.size w wr)) (fun _ _ i _ => ws.length - (intOf i).toNat)
  case atStart => exact ⟨0, a, cap, l, [], Nat.zero_le _, rfl, rfl, hl, by decide, Nat.zero_le _, H0.out, H256.out, OwnInts.nil _ _, by show _ = _; rw [HT.out]; simp, Below.refl _ _⟩
  case round =>
    obtain ⟨j, ra, rc, r, out, hj, rfl, rfl, hrl, hol, holj, hbs, hr256, ho, ht, hb⟩ := hrel
    by_cases hjn : j < ws.length
    · obtain ⟨x, hx⟩ : ∃ x, ws[j]? = some x := ⟨ws[j], by simp [hjn]⟩
      obtain ⟨b, off, rfl, hcell⟩ := HW.out j x hx
      have hcell' : wr.cell? ⟨b, off + j, none⟩ = some (.int .i64 x) := by
        rw [hb.out.cell (p := ⟨b, off + j, none⟩) (World.block_lt_of_cell? w _ hcell)]
        exact hcell
      obtain ⟨hx1, hx2⟩ := HI.out x (List.mem_of_getElem? hx)
      have HX : Hid (ws[j]? = some x) := hx
      clear hx hcell
      by_cases hneg : x < 0
      · go_wp2_with fail
        go_ret2
        exact Took.none (takeN_bad r ws j x HX.out (by omega) out T ht.out) hb.out
      · obtain ⟨k, rfl⟩ := Int.eq_ofNat_of_zero_le (show 0 ≤ x by omega)
        by_cases hk7 : k ≤ 7
        · by_cases hlong : r.length < k
          · go_wp2_with fail
            go_ret2
            exact Took.none (takeN_bad r ws j k HX.out (by omega) out T ht.out) hb.out
          · have hkr : k ≤ r.length := by omega
            have hrc : r.length ≤ rc := hbs.out.le
            have hs1 := slice_hi ra r.length rc k (by omega)
            have hs2 := slice_lo ra r.length rc k hkr
            have HTK : Hid (SlAt wr (.slice ra k rc) (r.take k)) := (hbs.out.below hb.out).hi k hkr
            have HTL : Hid ((r.take k).length = k) := by show _ = _; simp; omega
            have HT256 : Hid (∀ x ∈ r.take k, x < 256) := fun x hx => hr256.out x (List.mem_of_mem_take hx)
            obtain ⟨m, hm⟩ : ∃ m, m = getN (r.take k) := ⟨_, rfl⟩
            have HM : Hid (m = getN (r.take k)) := hm
            have hsz : w.heap.size ≤ wr.heap.size := hb.out.size
            clear hm
            go_wp2_with first
              | (go_at_call 15; refine (rgetN_ok _ _ _ HTK.out (by rw [HTL.out]; omega) HT256.out m HM.out).mono ?_; rintro e w2 ⟨rfl, rfl⟩)
              | (at_builtin; go_must (refine wpList_append_int _ rfl (.tmp 39) (.tmp 41) 33 rfl w.heap.size i0 Try.underlying33 hi hz0 hz1 hz2 _ out rfl ho.out (m : Int) rfl hol hsz ?_))
            intro v' w' h1 h2
            go_wp2_with fail
            refine ⟨⟨j + 1, lowA ra rc k, rc - k, r.drop k, out ++ [(m : Int)], by omega, by go_num, by rw [List.length_drop], by rw [List.length_drop]; omega, ?_, ?_, hbs.out.lo k hkr, fun x hx => hr256.out x (List.mem_of_mem_drop hx), h1, ?_, hb.out.trans h2.out⟩, by (simp [intOf]) <;> omega⟩
            · have := holj.out; simp; omega
            · have := holj.out; show _ ≤ _; simp; omega
            · show _ = _
              rw [HM.out]
              exact takeN_good r ws j k HX.out hk7 hkr out T ht.out
        · go_wp2_with fail
          go_ret2
          exact Took.none (takeN_bad r ws j k HX.out (by omega) out T ht.out) hb.out
    · have e : j = ws.length := by omega
      subst e
      have e2 := takeN_end r ws out T ht.out
      go_wp2_with fail
      go_ret2
      refine ⟨_, by rw [e2]; rfl, ?_, hb.out⟩
      rw [e2]; exact ho.out

end Go.Proofs.Ytdfgceplgcblkaa
