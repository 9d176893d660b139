/- BitsSplit: the walk of the law. -/
import Derived.Test.YtkloocfceghddaaWalk8
namespace Go.Proofs.Ytkloocfceghddaa
set_option linter.unusedVariables false
set_option linter.unusedSimpArgs false
open Go.RowKit Dg

theorem div_pow_nonneg (V M : Nat) : 0 ≤ (V : Int) / 2 ^ M := Int.ediv_nonneg (by omega) (Int.le_of_lt (pow_pos_int M))
theorem div_pow_lt (V N M : Nat) (h : V < 2 ^ (N + M)) : (V : Int) / 2 ^ M < 2 ^ N := by
  have h1 : V / 2 ^ M < 2 ^ N := by
    rw [Nat.div_lt_iff_lt_mul (Nat.pow_pos (by decide)), ← Nat.pow_add]; exact h
  have e : (V : Int) / 2 ^ M = ((V / 2 ^ M : Nat) : Int) := by push_cast; rfl
  rw [e, ← pow_cast]; omega

set_option maxHeartbeats 4000000 in
theorem split_any (w : World) (v n m : Int) (hv1 : -9223372036854775808 ≤ v) (hv2 : v ≤ 9223372036854775807) (hn1 : -9223372036854775808 ≤ n) (hn2 : n ≤ 9223372036854775807) (hm1 : -9223372036854775808 ≤ m) (hm2 : m ≤ 9223372036854775807) :
    Calls Try.prog 3 #[.int .i64 v, .int .i64 n, .int .i64 m] w fun e w' => e = .returned (.bool true) ∧ Below w.heap.size w w' := by
  go_enter Try.func3, Try.ntmps3
  go_wp2_with fail
  refine (within_nat n 31 _ hn1 hn2 (by decide) (by decide) _ rfl).mono ?_
  rintro e w1 ⟨N, rfl, hN, -, rfl⟩
  go_wp2_with fail
  refine (within_nat m 31 _ hm1 hm2 (by decide) (by decide) _ rfl).mono ?_
  rintro e w1 ⟨M, rfl, hM, -, rfl⟩
  have hp62 : 2 ^ (N + M) ≤ 4611686018427387904 := by
    have h1 : 2 ^ (N + M) ≤ 2 ^ 62 := Nat.pow_le_pow_right (by decide) (by omega)
    have h2 : (2 : Nat) ^ 62 = 4611686018427387904 := by decide
    omega
  have hp0 : 1 ≤ 2 ^ (N + M) := Nat.pow_pos (by decide)
  have HP : Hid (2 ^ (N + M) ≤ 4611686018427387904) := hp62
  have HP0 : Hid (1 ≤ 2 ^ (N + M)) := hp0
  clear hp62 hp0
  go_wp2_with fail
  refine (within_nat v (2 ^ (N + M)) _ hv1 hv2 HP0.out HP.out _ (wrap64_pow _ (by omega))).mono ?_
  rintro e w1 ⟨V, rfl, hV, -, rfl⟩
  have HV : Hid (V < 2 ^ (N + M)) := hV
  have hVb : V < 4611686018427387904 := Nat.lt_of_lt_of_le hV HP.out
  clear hV
  go_wp2_with fail
  refine (newWriter_any _).mono ?_
  rintro e w1 ⟨rfl, hwa1, hb1, hs1⟩
  obtain ⟨a, ha⟩ : ∃ a, a = w.heap.size := ⟨_, rfl⟩
  rw [← ha] at hwa1 hs1 ⊢
  have HB1 : Hid (Below w.heap.size w w1) := ha ▸ hb1
  have HA1 : Hid (WrAt w1 a (.slice none 0 0) []) := hwa1
  have HSA : Hid (a = w.heap.size) := ha
  clear hwa1 hb1 ha
  go_wp2_with fail
  refine (newWriter_any _).mono ?_
  rintro e w2 ⟨rfl, hwb2, hb2, hs2⟩
  obtain ⟨b, hb⟩ : ∃ b, b = w1.heap.size := ⟨_, rfl⟩
  rw [← hb] at hwb2 hs2 ⊢
  have hab : a < b := by omega
  have HA2 : Hid (WrAt w2 a (.slice none 0 0) []) := HA1.out.other (F := fun _ => False) (Kept.of_below (hb ▸ hb2)) (fun _ _ h => h)
  have HB2 : Hid (WrAt w2 b (.slice none 0 0) []) := hwb2
  have HBB : Hid (Below w.heap.size w w2) := HB1.out.trans ((show Below w1.heap.size w1 w2 from hb ▸ hb2).mono (by have := HSA.out; omega))
  clear hwb2 hb2 hb HA1 HB1
  have hba : a ≠ b := by omega
  have hbs2 : b < w2.heap.size := hs2
  -- a.Put(v, n + m)
  go_wp2_with fail
  refine (put_at w2 a _ [] V (N + M) HA2.out (by decide) (by omega) _ (by omega)).mono ?_
  rintro e w3 ⟨rfl, rva, hwa, hk, hn⟩
  have HA3 : Hid (WrAt w3 a rva ([] ++ dig V (N + M))) := hwa
  have FA : Hid (∀ k, Wf a rva k → k = a ∨ (w2.heap.size ≤ k ∧ k < w3.heap.size)) := by
    rintro k (h | h)
    · exact Or.inl h
    · rcases hn k h with h' | h'
      · simp [Value.ownBlock] at h'
      · exact Or.inr ⟨h', (hwa.own.lt k h).2⟩
  have HB3 : Hid (WrAt w3 b (.slice none 0 0) []) := HB2.out.other hk (fun k h h' => by have := Wf_nil h; have := Wf_nil h'; omega)
  have HBB3 : Hid (Below w.heap.size w w3) := hk.below_of HBB.out (fun k h => by have := Wf_nil h; have := HSA.out; omega) (by have := HSA.out; omega)
  have hs3 : w2.heap.size ≤ w3.heap.size := hk.size
  clear hwa hk hn HA2 HB2 HBB
  -- b.Put(v >> m, n)
  go_wp2_with fail
  refine (put_at w3 b _ [] _ N HB3.out (by decide) (by omega) _ rfl).mono ?_
  rintro e w4 ⟨rfl, rvb, hwb, hk, hn⟩
  have HB4 : Hid (WrAt w4 b rvb ([] ++ dig ((V : Int) / 2 ^ M) N)) := hwb
  have FB4 : Hid (∀ k, Wf b rvb k → k = b ∨ (w3.heap.size ≤ k ∧ k < w4.heap.size)) := by
    rintro k (h | h)
    · exact Or.inl h
    · rcases hn k h with h' | h'
      · simp [Value.ownBlock] at h'
      · exact Or.inr ⟨h', (hwb.own.lt k h).2⟩
  have HA4 : Hid (WrAt w4 a rva ([] ++ dig V (N + M))) := HA3.out.other hk (fun k h h' => by have := FA.out k h; have := Wf_nil h'; omega)
  have HBB4 : Hid (Below w.heap.size w w4) := hk.below_of HBB3.out (fun k h => by have := Wf_nil h; have := HSA.out; omega) (by have := HSA.out; omega)
  have hs4 : w3.heap.size ≤ w4.heap.size := hk.size
  clear hwb hk hn HA3 HB3 HBB3
  -- b.Put(v, m)
  go_wp2_with fail
  refine (put_at w4 b _ _ _ M HB4.out (by simp; omega) (by omega) _ rfl).mono ?_
  rintro e w5 ⟨rfl, rvc, hwb, hk, hn⟩
  have HB5 : Hid (WrAt w5 b rvc ([] ++ dig ((V : Int) / 2 ^ M) N ++ dig V M)) := hwb
  have HA5 : Hid (WrAt w5 a rva ([] ++ dig V (N + M))) := HA4.out.other hk (fun k h h' => by have := FA.out k h; have := FB4.out k h'; omega)
  have HBB5 : Hid (Below w.heap.size w w5) := hk.below_of HBB4.out (fun k h => by have := FB4.out k h; have := HSA.out; omega) (by have := HSA.out; omega)
  have hs5 : w4.heap.size ≤ w5.heap.size := hk.size
  clear hwb hk hn HA4 HB4 HBB4 FA FB4
  obtain ⟨l, hl⟩ : ∃ l, l = pack ([] ++ dig V (N + M)) := ⟨_, rfl⟩
  have hlb : l = pack ([] ++ dig ((V : Int) / 2 ^ M) N ++ dig V M) := by rw [hl, dig_append]; simp
  have hll : l.length ≤ 8 := by rw [hl, length_pack]; simp; omega
  have hl8 : N + M ≤ 8 * l.length := by rw [hl, length_pack]; simp; omega
  have hl256 : ∀ x ∈ l, x < 256 := by rw [hl]; exact pack_lt _
  have HL : Hid (l = pack ([] ++ dig V (N + M))) := hl
  have HLB : Hid (l = pack ([] ++ dig ((V : Int) / 2 ^ M) N ++ dig V M)) := hlb
  have H256 : Hid (∀ x ∈ l, x < 256) := hl256
  have FW : Hid (∀ k, (Wf a rva k ∨ Wf b rvc k) → k < w5.heap.size) := by
    rintro k (h | h)
    · exact (HA5.out.foot k h).2
    · exact (HB5.out.foot k h).2
  have HLA : Hid (([] ++ dig V (N + M)).length < 4398046511104) := by show _ < _; simp; omega
  have HLC : Hid (([] ++ dig ((V : Int) / 2 ^ M) N ++ dig V M).length < 4398046511104) := by show _ < _; simp; omega
  clear hl hlb hl256
  have hsa : w.heap.size < w5.heap.size := by have := HSA.out; omega
  -- r
  go_wp2_with fail
  refine (bytes_any w5 a rva _ l HL.out HA5.out HLA.out).mono ?_
  rintro e w6 ⟨rfl, hn6⟩
  have hs6 : w5.heap.size < w6.heap.size := (hn6.1.lt _ rfl).2
  have HN6 : Hid (NewBytes w5 w6 l) := hn6
  clear hn6
  go_wp2_with fail
  refine (newReader_any w6 _ l (SlAt.of_owns HN6.out.1) (by omega) H256.out).mono ?_
  rintro e w7 ⟨r, rfl, hr, hrd, hb7⟩
  have hs7 : w6.heap.size ≤ w7.heap.size := hb7.size
  have hr7 : r < w7.heap.size := hrd.lt
  obtain ⟨rvr, hrvr⟩ : ∃ rvr : Value, rvr = .slice (some ⟨w6.heap.size, 0, none⟩) l.length l.length := ⟨_, rfl⟩
  rw [← hrvr] at hrd
  have FR : Hid (∀ k, rvr.ownBlock = some k → k = w6.heap.size) := by rw [hrvr]; intro k hk; simp [Value.ownBlock] at hk; omega
  have HR7 : Hid (RdAt w7 r rvr l 0) := hrd
  have HA7 : Hid (WrAt w7 a rva ([] ++ dig V (N + M))) := (HA5.out.below HN6.out.2).below hb7
  have HB7 : Hid (WrAt w7 b rvc ([] ++ dig ((V : Int) / 2 ^ M) N ++ dig V M)) := (HB5.out.below HN6.out.2).below hb7
  have HBB7 : Hid (Below w.heap.size w w7) := HBB5.out.trans ((HN6.out.2.mono (by omega)).trans (hb7.mono (by omega)))
  clear hrd hb7 hrvr HN6 HA5 HB5 HBB5
  -- s
  go_wp2_with fail
  refine (bytes_any w7 a rva _ l HL.out HA7.out HLA.out).mono ?_
  rintro e w8 ⟨rfl, hn8⟩
  have hs8 : w7.heap.size < w8.heap.size := (hn8.1.lt _ rfl).2
  have HN8 : Hid (NewBytes w7 w8 l) := hn8
  clear hn8
  go_wp2_with fail
  refine (newReader_any w8 _ l (SlAt.of_owns HN8.out.1) (by omega) H256.out).mono ?_
  rintro e w9 ⟨s, rfl, hs, hrd, hb9⟩
  have hs9 : w8.heap.size ≤ w9.heap.size := hb9.size
  obtain ⟨rvs, hrvs⟩ : ∃ rvs : Value, rvs = .slice (some ⟨w8.heap.size, 0, none⟩) l.length l.length := ⟨_, rfl⟩
  rw [← hrvs] at hrd
  have FS : Hid (∀ k, rvs.ownBlock = some k → k = w8.heap.size) := by rw [hrvs]; intro k hk; simp [Value.ownBlock] at hk; omega
  have HS9 : Hid (RdAt w9 s rvs l 0) := hrd
  have HR9 : Hid (RdAt w9 r rvr l 0) := (HR7.out.below HN8.out.2).below hb9
  have HA9 : Hid (WrAt w9 a rva ([] ++ dig V (N + M))) := (HA7.out.below HN8.out.2).below hb9
  have HB9 : Hid (WrAt w9 b rvc ([] ++ dig ((V : Int) / 2 ^ M) N ++ dig V M)) := (HB7.out.below HN8.out.2).below hb9
  have HBB9 : Hid (Below w.heap.size w w9) := HBB7.out.trans ((HN8.out.2.mono (by omega)).trans (hb9.mono (by omega)))
  clear hrd hb9 hrvs HN8 HA7 HB7 HBB7 HR7
  have hrs : r ≠ s := by omega
  go_wp2_with fail
  refine (get_at w9 r rvr l 0 N HR9.out (by omega) (by omega) _ rfl ((V : Int) / 2 ^ M) ?x1).mono ?_
  case x1 =>
    rw [HL.out, taken _ [] (dig V (N + M)) rfl 0 N rfl (by simp), dig_append, List.take_left' (by simp), num_dig]
    exact Int.emod_eq_of_lt (div_pow_nonneg V M) (div_pow_lt V N M HV.out)
  rintro e w10 ⟨rfl, hr10, hk10⟩
  have HR10 : Hid (RdAt w10 r rvr l (0 + N)) := hr10
  have HS10 : Hid (RdAt w10 s rvs l 0) := HS9.out.kept hk10 (by omega) (fun k hk h => by have := FS.out k hk; omega)
  have HA10 : Hid (WrAt w10 a rva ([] ++ dig V (N + M))) := HA9.out.other hk10 (fun k hk h => by have := FW.out k (Or.inl hk); omega)
  have HB10 : Hid (WrAt w10 b rvc ([] ++ dig ((V : Int) / 2 ^ M) N ++ dig V M)) := HB9.out.other hk10 (fun k hk h => by have := FW.out k (Or.inr hk); omega)
  have HBB10 : Hid (Below w.heap.size w w10) := hk10.below_of HBB9.out (fun k h => by omega) (by omega)
  have hs10 : w9.heap.size ≤ w10.heap.size := hk10.size
  clear hr10 hk10 HR9 HS9 HA9 HB9 HBB9
  go_wp2_with fail
  refine (get_at w10 r rvr l (0 + N) M HR10.out (by omega) (by omega) _ rfl ((V % 2 ^ M : Nat) : Int) ?x2).mono ?_
  case x2 =>
    rw [HL.out, taken _ (dig ((V : Int) / 2 ^ M) N) (dig V M) (by rw [dig_append]; simp) (0 + N) M (by simp) (by simp), List.take_of_length_le (by simp), num_dig]
    push_cast; rfl
  rintro e w11 ⟨rfl, hr10, hk10⟩
  have HS11 : Hid (RdAt w11 s rvs l 0) := HS10.out.kept hk10 (by omega) (fun k hk h => by have := FS.out k hk; omega)
  have HA11 : Hid (WrAt w11 a rva ([] ++ dig V (N + M))) := HA10.out.other hk10 (fun k hk h => by have := FW.out k (Or.inl hk); omega)
  have HB11 : Hid (WrAt w11 b rvc ([] ++ dig ((V : Int) / 2 ^ M) N ++ dig V M)) := HB10.out.other hk10 (fun k hk h => by have := FW.out k (Or.inr hk); omega)
  have HBB11 : Hid (Below w.heap.size w w11) := hk10.below_of HBB10.out (fun k h => by omega) (by omega)
  have hs11 : w10.heap.size ≤ w11.heap.size := hk10.size
  clear hr10 hk10 HR10 HS10 HA10 HB10 HBB10
  go_wp2_with fail
  refine (get_at w11 s rvs l 0 (N + M) HS11.out (by omega) (by omega) _ (by omega) (V : Int) ?x3).mono ?_
  case x3 =>
    rw [HL.out, taken _ [] (dig V (N + M)) rfl 0 (N + M) rfl (by simp), List.take_of_length_le (by simp), num_dig]
    exact Int.emod_eq_of_lt (by omega) (by rw [← pow_cast]; have := HV.out; omega)
  rintro e w12 ⟨rfl, hr10, hk10⟩
  have HA12 : Hid (WrAt w12 a rva ([] ++ dig V (N + M))) := HA11.out.other hk10 (fun k hk h => by have := FW.out k (Or.inl hk); omega)
  have HB12 : Hid (WrAt w12 b rvc ([] ++ dig ((V : Int) / 2 ^ M) N ++ dig V M)) := HB11.out.other hk10 (fun k hk h => by have := FW.out k (Or.inr hk); omega)
  have HBB12 : Hid (Below w.heap.size w w12) := hk10.below_of HBB11.out (fun k h => by omega) (by omega)
  have hs12 : w11.heap.size ≤ w12.heap.size := hk10.size
  clear hr10 hk10 HS11 HA11 HB11 HBB11
  -- the end
  go_wp2_with fail
  refine (bytes_any w12 a rva _ l HL.out HA12.out HLA.out).mono ?_
  rintro e w13 ⟨rfl, hn13⟩
  have HN13 : Hid (NewBytes w12 w13 l) := hn13
  have hs13 : w12.heap.size < w13.heap.size := (hn13.1.lt _ rfl).2
  have HB13 : Hid (WrAt w13 b rvc ([] ++ dig ((V : Int) / 2 ^ M) N ++ dig V M)) := HB12.out.below hn13.2
  clear hn13 HB12 HA12
  go_wp2_with fail
  refine (bytes_any w13 b rvc _ l HLB.out HB13.out HLC.out).mono ?_
  rintro e w14 ⟨rfl, hn14⟩
  have HN14 : Hid (NewBytes w13 w14 l) := hn14
  have hs14 : w13.heap.size < w14.heap.size := (hn14.1.lt _ rfl).2
  clear hn14
  go_wp2_with fail
  refine (same_any w14 _ _ l ((SlAt.of_owns HN13.out.1).below HN14.out.2) (SlAt.of_owns HN14.out.1) (by omega)).mono ?_
  rintro e w15 ⟨rfl, n15, rfl⟩
  have hand := and_mask' V M (by omega) (by omega)
  go_wp2_with fail
  refine (wakes_any _).mono ?_
  rintro e w16 ⟨rfl, hb16⟩
  go_wp2
  go_ret
  have h1 : Below w.heap.size w (w14.drewN n15) := below_drewN (HBB12.out.trans ((HN13.out.2.mono (by omega)).trans (HN14.out.2.mono (by omega)))) _
  exact ⟨rfl, h1.trans (hb16.mono (by show w.heap.size ≤ w14.heap.size; omega))⟩

end Go.Proofs.Ytkloocfceghddaa
