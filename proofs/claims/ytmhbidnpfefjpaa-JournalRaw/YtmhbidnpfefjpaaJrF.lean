/- The document's small functions: number, value, zeros, block, span. -/
import Derived.Test.YtmhbidnpfefjpaaJrA
import Derived.Lib.AppendZerosOnto
namespace Go.Proofs.Ytmhbidnpfefjpaa
open Go.RowKit
theorem BkB.free {W : World} {g : Nat} {L : List Nat} (h : BkB W g L) (i : Nat) : W.frozen? ⟨g, i, none⟩ = false := by
  unfold BkB at h
  simp [World.frozen?, h]
theorem put4 (n : Nat) : putL (List.replicate 4 0) 0 4 n 4 = b4 n := by
  simp [putL, b4, List.set, List.replicate]
theorem put8 (n : Nat) : putL (List.replicate 8 0) 0 8 n 8 = b8 n := by
  simp [putL, b8, List.set, List.replicate]
theorem div_step (n k : Nat) : n / 2 ^ (8 * k) / 256 = n / 2 ^ (8 * (k + 1)) := by
  rw [Nat.div_div_eq_div_mul, show 8 * (k + 1) = 8 * k + 8 by omega, Nat.pow_add]
set_option maxRecDepth 100000 in
set_option maxHeartbeats 1000000 in
theorem numberD (n wide : Nat) (W : World) (hw : wide ≤ 8) (h0 : 0 < wide) (hn : n < 18446744073709551616) : Calls Try.prog 70 #[.int .u64 (n : Int), .int .i64 (wide : Int)] W fun e w' => e = .returned (.slice (some ⟨W.heap.size, 0, none⟩) wide wide) ∧ Hid (BkB w' W.heap.size (putL (List.replicate wide 0) 0 wide n wide)) ∧ Hid (Below W.heap.size W w') := by
  have hlw : ∀ k, n / 2 ^ (8 * k) < 18446744073709551616 := fun k => Nat.lt_of_le_of_lt (Nat.div_le_self _ _) hn
  have hlw' := hide' hlw
  clear hlw
  go_enter Try.func70, Try.ntmps70
  go_wp2_with (at_make; refine make_bytes rfl _ _ rfl wide _ _ rfl rfl rfl rfl (by omega) ?_; intro w2 hb2 hw2; have hb3 := hide' hb2; have hw3 := hide' hw2; clear hb2 hw2)
  go_loopw [0, 6] (fun nv iv wr => ∃ k : Nat, k ≤ wide ∧ nv = .int .u64 ((n / 2 ^ (8 * k) : Nat) : Int) ∧ iv = .int .i64 ((wide : Int) - 1 - (k : Int)) ∧ Hid (BkB wr W.heap.size (putL (List.replicate wide 0) 0 wide n k)) ∧ Hid (Below W.heap.size W wr)) (fun _ iv _ => (intOf iv + 1).toNat)
  case atStart => exact ⟨0, by omega, by simp, by simp, hb3, hw3⟩
  case round =>
    clear hb3 hw3
    obtain ⟨k, hk, rfl, rfl, hB, hW⟩ := hrel
    have hlt := hlw'.out k
    by_cases hkw : k < wide
    · have hge : (0 : Int) ≤ (wide : Int) - 1 - (k : Int) := by omega
      obtain ⟨y, hy⟩ : ∃ y, (putL (List.replicate wide 0) 0 wide n k)[0 + (wide - 1 - k)]? = some y := ⟨_, List.getElem?_eq_getElem (by rw [putL_len, List.length_replicate]; omega)⟩
      have hc := hB.out.cell hy
      have hf := hB.out.free (0 + (wide - 1 - k))
      have hs : Hid (BkB (wr.setCell ⟨W.heap.size, 0 + (wide - 1 - k), none⟩ (.int .u8 ((n / 2 ^ (8 * k) % 256 : Nat) : Int))) W.heap.size (putL (List.replicate wide 0) 0 wide n (k + 1))) := BkT.set (T := 5) hB.out _ _
      have hbe : Hid (Below W.heap.size W (wr.setCell ⟨W.heap.size, 0 + (wide - 1 - k), none⟩ (.int .u8 ((n / 2 ^ (8 * k) % 256 : Nat) : Int)))) := hW.out.trans (((Kp.refl W.heap.size W.heap.size wr).set _ _).below (Nat.le_refl _) (Nat.le_refl _) hW.out.size)
      have hdv := div_step n k
      obtain ⟨ix, hix⟩ : ∃ x : Nat, x = wide - 1 - k := ⟨_, rfl⟩
      have hix2 : (wide : Int) - 1 - (k : Int) = (ix : Int) := by omega
      have hix3 := hide' hix2
      rw [← hix, Nat.zero_add] at hc hf hs hbe
      rw [hix2] at hge ⊢
      have hixl : ix < wide := by omega
      generalize hxx : n / 2 ^ (8 * k) = x at *
      have hw8 : IntKind.u8.wrap (x : Int) = ((x % 256 : Nat) : Int) := by
        unfold IntKind.wrap
        simp [IntKind.bits, IntKind.signed]
      rw [show ((x % 256 : Nat) : Int) = (x : Int) % 256 by omega] at hs hbe
      clear hxx hix
      go_wp2
      exact ⟨⟨k + 1, by omega, by rw [← hdv]; go_num, by have := hix3.out; simp only [Value.int.injEq, true_and]; omega, hs, hbe⟩, by simp [intOf] <;> omega⟩
    · have hge : (wide : Int) - 1 - (k : Int) < 0 := by omega
      obtain rfl : k = wide := by omega
      go_wp2
      go_ret
      exact ⟨rfl, hB, hW⟩
set_option maxRecDepth 100000 in
set_option maxHeartbeats 1000000 in
theorem valueD {W : World} {v : Value} {L : List Nat} (h : RowC W v L) (hb : ∀ z ∈ L, z < 256) (hl : L.length ≤ 7) : Calls Try.prog 50 #[v] W fun e w' => e = .returned (.int .u64 (numB L : Int)) ∧ w' = W := by
  obtain ⟨oa, cap, rfl, _, hc⟩ := h
  have hc' := hide' hc
  have hb' := hide' hb
  clear hc hb
  obtain ⟨m, hm⟩ : ∃ m, L.length = m := ⟨_, rfl⟩
  rw [hm] at hl ⊢
  have hm' := hide' hm
  clear hm
  go_enter Try.func50, Try.ntmps50
  go_wp2
  go_loopw [3, 4] (fun nv iv wr => wr = W ∧ ∃ i : Nat, iv = .int .i64 (i : Int) ∧ i ≤ m ∧ nv = .int .u64 (numB (L.take i) : Int)) (fun _ iv _ => ((m : Int) - intOf iv).toNat)
  case atStart => exact ⟨rfl, 0, rfl, by omega, rfl⟩
  case round =>
    obtain ⟨rfl, i, rfl, hi, rfl⟩ := hrel
    by_cases hik : i < m
    · have hik' : (i : Int) < (m : Int) := by omega
      obtain ⟨z, hz⟩ : ∃ z, L[i]? = some z := ⟨_, List.getElem?_eq_getElem (by rw [hm'.out]; exact hik)⟩
      obtain ⟨g, o, rfl, hcell⟩ := hc'.out i z hz
      have hz256 := hb'.out z (List.mem_of_getElem? hz)
      have hnb : numB (L.take i) < 72057594037927936 := by
        have h1 := numB_lt (L.take i) fun b hb => hb'.out b (List.mem_of_mem_take hb)
        rw [List.length_take] at h1
        have h2 : 256 ^ min i L.length ≤ 256 ^ 7 := Nat.pow_le_pow_right (by omega) (by rw [hm'.out]; omega)
        exact Nat.lt_of_lt_of_le h1 h2
      have hs : Hid (numB (L.take (i + 1)) = 256 * numB (L.take i) + z) := by
        obtain ⟨h1, h2⟩ := List.getElem?_eq_some_iff.1 hz
        unfold Hid
        rw [List.take_succ_eq_append_getElem h1, h2, numB_snoc]
      generalize numB (L.take i) = x at *
      clear hz
      go_wp2
      exact ⟨⟨trivial, i + 1, by go_num, by omega, by rw [hs.out]; go_num⟩, by simp [intOf]; omega⟩
    · have hik' : ¬ (i : Int) < (m : Int) := by omega
      go_wp2
      go_ret
      refine ⟨?_, rfl⟩
      rw [List.take_of_length_le (by rw [hm'.out]; omega)]
      rfl
def allZ (L : List Nat) : Bool := L.all fun z => decide (z = 0)
theorem allZ_no {L : List Nat} {i z : Nat} (h : L[i]? = some z) (hz : z ≠ 0) : allZ L = false := by
  unfold allZ
  rw [List.all_eq_false]
  exact ⟨z, List.mem_of_getElem? h, by simpa using hz⟩
theorem allZ_yes {L : List Nat} (h : ∀ i z : Nat, L[i]? = some z → z = 0) : allZ L = true := by
  unfold allZ
  rw [List.all_eq_true]
  intro z hz
  obtain ⟨i, hi⟩ := List.getElem?_of_mem hz
  simpa using h i z hi
set_option maxRecDepth 100000 in
set_option maxHeartbeats 1000000 in
theorem zerosD {W : World} {v : Value} {L : List Nat} (h : RowC W v L) (hl : L.length ≤ 10000000) : Calls Try.prog 52 #[v] W fun e w' => e = .returned (.bool (allZ L)) ∧ w' = W := by
  obtain ⟨oa, cap, rfl, _, hc⟩ := h
  have hc' := hide' hc
  clear hc
  obtain ⟨m, hm⟩ : ∃ m, L.length = m := ⟨_, rfl⟩
  rw [hm] at hl ⊢
  have hm' := hide' hm
  clear hm
  go_enter Try.func52, Try.ntmps52
  go_wp2
  go_loopw [3] (fun iv wr => wr = W ∧ ∃ i : Nat, iv = .int .i64 (i : Int) ∧ i ≤ m ∧ Hid (∀ j z, L[j]? = some z → j < i → z = 0)) (fun iv _ => ((m : Int) - intOf iv).toNat)
  case atStart => exact ⟨rfl, 0, rfl, by omega, fun j z _ hj => by omega⟩
  case round =>
    obtain ⟨rfl, i, rfl, hi, hall⟩ := hrel
    by_cases hik : i < m
    · have hik' : (i : Int) < (m : Int) := by omega
      obtain ⟨z, hz⟩ : ∃ z, L[i]? = some z := ⟨_, List.getElem?_eq_getElem (by rw [hm'.out]; exact hik)⟩
      obtain ⟨g, o, rfl, hcell⟩ := hc'.out i z hz
      by_cases hz0 : z = 0
      · have hall2 : Hid (∀ j z, L[j]? = some z → j < i + 1 → z = 0) := fun j y hy hj => by
          rcases Nat.lt_or_ge j i with h1 | h1
          · exact hall.out j y hy h1
          · obtain rfl : j = i := by omega
            rw [hz] at hy
            cases hy
            exact hz0
        subst hz0
        clear hz
        go_wp2
        exact ⟨⟨trivial, i + 1, by go_num, by omega, hall2⟩, by simp [intOf]; omega⟩
      · have hne := hide' (allZ_no hz hz0)
        have hz1 : ((z : Int) == 0) = false := by simp; omega
        have hz2 : ¬ (z : Int) = 0 := by omega
        clear hz
        go_wp2
        go_ret
        refine ⟨?_, rfl⟩
        rw [hne.out]
        rfl
    · have hik' : ¬ (i : Int) < (m : Int) := by omega
      have hy := hide' (allZ_yes (L := L) fun j z hj => hall.out j z hj (by have := (List.getElem?_eq_some_iff.1 hj).1; rw [hm'.out] at this; omega))
      go_wp2
      go_ret
      refine ⟨?_, rfl⟩
      rw [hy.out]
      rfl
set_option maxRecDepth 100000 in
theorem spanD {W : World} (m : Nat) (hm : m ≤ 10000000000) : Calls Try.prog 54 #[.int .i64 (m : Int)] W fun e w' => e = .returned (.int .i64 (spn m : Int)) ∧ w' = W := by
  go_enter Try.func54, Try.ntmps54
  go_wp2
  go_ret
  refine ⟨ret_int ?_, rfl⟩
  unfold spn
  omega
theorem rk_cap {W : World} {r rb cap : Nat} {D : Dk} (h : RkA W r rb cap D) : D.bytes.length ≤ cap := by
  rcases h.row.2 with ⟨e, _⟩ | ⟨g, c, cur, e, _, _, hc, _⟩
  · cases e
  · cases e; exact hc
set_option maxRecDepth 100000 in
set_option maxHeartbeats 1000000 in
theorem blockD {W : World} {r rb cap : Nat} {D : Dk} {n : Nat} (h : RkA W r rb cap D) (hk : D.bytes.length = 16 * n) (hn : n ≤ 65536) (b : Nat) (hb : b < n) : Calls Try.prog 49 #[.pointer (some ⟨r, 0, none⟩), .int .i64 (b : Int)] W fun e w' => e = .returned (.slice (some ⟨rb, b * 16, none⟩) 16 (cap - b * 16)) ∧ w' = W := by
  have hc := h.cells.1
  have hcp := rk_cap h
  rw [hk] at hc hcp
  clear h hk
  have h1 : ¬ b * 16 = cap := by omega
  go_enter Try.func49, Try.ntmps49
  go_wp2
  go_ret
  refine ⟨?_, rfl⟩
  show Ending.returned (Value.slice (some ⟨rb, b * 16, none⟩) (b * 16 + 16 - b * 16) (cap - b * 16)) = _
  rw [show b * 16 + 16 - b * 16 = 16 by omega]
theorem RkA.blkRow {W : World} {r rb cap : Nat} {D : Dk} {n b : Nat} (h : RkA W r rb cap D) (hk : D.bytes.length = 16 * n) (hb : b < n) : RowC W (.slice (some ⟨rb, b * 16, none⟩) 16 (cap - b * 16)) (blkB D.bytes b) := by
  obtain ⟨oa, c, e, _, hc⟩ := h.rowC
  have hcp := rk_cap h
  have hl := blkB_len hk hb
  refine ⟨_, cap - b * 16, by rw [hl], ⟨by rw [hl]; omega, fun e => by cases e⟩, fun i z hz => ⟨rb, b * 16, rfl, ?_⟩⟩
  obtain ⟨g, o, e1, e2⟩ := hc _ z (blkB_at hz)
  injection e with e3
  rw [← e3] at e1
  cases e1
  rw [Nat.zero_add] at e2
  rw [show b * 16 + i = 16 * b + i by omega]
  exact e2
end Go.Proofs.Ytmhbidnpfefjpaa
