/- The small functions: number, put, fit, size; the document's number, value. -/
import Derived.Test.YtgfnfbbiojnhaaaDoorImM
import Derived.Deep.CutBlock
import Derived.Deep.CutRange
namespace Go.Proofs.YtgfnfbbiojnhaaaDoor
open Go.RowKit
set_option maxRecDepth 100000 in
set_option maxHeartbeats 1000000 in
theorem numberF {W : World} {v : Value} {L : List Nat} (h : RowC W v L) (hb : ∀ z ∈ L, z < 256) (hl : L.length ≤ 8) : Calls Tryd.prog 19 #[v] W fun e w' => e = .returned (.int .u64 (numB L : Int)) ∧ w' = W := by
  obtain ⟨oa, cap, rfl, _, hc⟩ := h
  have hc' := hide' hc
  have hb' := hide' hb
  clear hc hb
  obtain ⟨m, hm⟩ : ∃ m, L.length = m := ⟨_, rfl⟩
  rw [hm] at hl ⊢
  have hm' := hide' hm
  clear hm
  go_enter Tryd.func19, Tryd.ntmps19
  go_wp2
  go_loopw [3, 5, 8] (fun nv _ iv wr => wr = W ∧ ∃ i : Nat, iv = .int .i64 (i : Int) ∧ i ≤ m ∧ nv = .int .u64 (numB (L.take i) : Int)) (fun _ _ iv _ => ((m : Int) - intOf iv).toNat)
  case atStart => exact ⟨rfl, 0, rfl, by omega, rfl⟩
  case round =>
    obtain ⟨rfl, i, rfl, hi, rfl⟩ := hrel
    by_cases hik : i < m
    · have hik' : (i : Int) < (m : Int) := by omega
      obtain ⟨z, hz⟩ : ∃ z, L[i]? = some z := ⟨_, List.getElem?_eq_getElem (by rw [hm'.out]; exact hik)⟩
      obtain ⟨g, o, rfl, hcell⟩ := hc'.out i z hz
      have hz256 := hb'.out z (List.mem_of_getElem? hz)
      have hnb : numB (L.take i) < 72057594037927936 := by
        have h1 := numB_lt (L.take i) fun b hb => hb'.out b (List.mem_of_mem_take hb)
        rw [List.length_take] at h1
        have h2 : 256 ^ min i L.length ≤ 256 ^ 7 := Nat.pow_le_pow_right (by omega) (by rw [hm'.out]; omega)
        exact Nat.lt_of_lt_of_le h1 h2
      have hs : Hid (numB (L.take (i + 1)) = 256 * numB (L.take i) + z) := by
        obtain ⟨h1, h2⟩ := List.getElem?_eq_some_iff.1 hz
        unfold Hid
        rw [List.take_succ_eq_append_getElem h1, h2, numB_snoc]
      have hob := or_byte hz256 hnb
      generalize numB (L.take i) = x at *
      clear hz
      go_wp2
      exact ⟨⟨trivial, i + 1, by go_num, by omega, by rw [hs.out]; go_num⟩, by simp [intOf]; omega⟩
    · have hik' : ¬ (i : Int) < (m : Int) := by omega
      go_wp2
      go_ret
      refine ⟨?_, rfl⟩
      rw [List.take_of_length_le (by rw [hm'.out]; omega)]
      rfl
set_option maxRecDepth 100000 in
set_option maxHeartbeats 1000000 in
theorem numberD (n wide : Nat) (W : World) (hw : wide ≤ 8) (h0 : 0 < wide) (hn : n < 18446744073709551616) : Calls Tryd.prog 17 #[.int .u64 (n : Int), .int .i64 (wide : Int)] W fun e w' => e = .returned (.slice (some ⟨W.heap.size, 0, none⟩) wide wide) ∧ Hid (BkB w' W.heap.size (putL (List.replicate wide 0) 0 wide n wide)) ∧ Hid (Below W.heap.size W w') := by
  have hlw : ∀ k, n / 2 ^ (8 * k) < 18446744073709551616 := fun k => Nat.lt_of_le_of_lt (Nat.div_le_self _ _) hn
  have hlw' := hide' hlw
  clear hlw
  go_enter Tryd.func17, Tryd.ntmps17
  go_wp2_with (at_make; refine make_bytes rfl _ _ rfl wide _ _ rfl rfl rfl rfl (by omega) ?_; intro w2 hb2 hw2; have hb3 := hide' hb2; have hw3 := hide' hw2; clear hb2 hw2)
  go_loopw [0, 6] (fun nv iv wr => ∃ k : Nat, k ≤ wide ∧ nv = .int .u64 ((n / 2 ^ (8 * k) : Nat) : Int) ∧ iv = .int .i64 ((wide : Int) - 1 - (k : Int)) ∧ Hid (BkB wr W.heap.size (putL (List.replicate wide 0) 0 wide n k)) ∧ Hid (Below W.heap.size W wr)) (fun _ iv _ => (intOf iv + 1).toNat)
  case atStart => exact ⟨0, by omega, by simp, by simp, hb3, hw3⟩
  case round =>
    clear hb3 hw3
    obtain ⟨k, hk, rfl, rfl, hB, hW⟩ := hrel
    have hlt := hlw'.out k
    by_cases hkw : k < wide
    · have hge : (0 : Int) ≤ (wide : Int) - 1 - (k : Int) := by omega
      obtain ⟨y, hy⟩ : ∃ y, (putL (List.replicate wide 0) 0 wide n k)[0 + (wide - 1 - k)]? = some y := ⟨_, List.getElem?_eq_getElem (by rw [putL_len, List.length_replicate]; omega)⟩
      have hc := hB.out.cell hy
      have hf := hB.out.free (0 + (wide - 1 - k))
      have hs : Hid (BkB (wr.setCell ⟨W.heap.size, 0 + (wide - 1 - k), none⟩ (.int .u8 ((n / 2 ^ (8 * k) % 256 : Nat) : Int))) W.heap.size (putL (List.replicate wide 0) 0 wide n (k + 1))) := BkB.set hB.out _ _
      have hbe : Hid (Below W.heap.size W (wr.setCell ⟨W.heap.size, 0 + (wide - 1 - k), none⟩ (.int .u8 ((n / 2 ^ (8 * k) % 256 : Nat) : Int)))) := hW.out.setCell (p := ⟨W.heap.size, 0 + (wide - 1 - k), none⟩) (Nat.le_refl _) _
      have hdv := div_step n k
      obtain ⟨ix, hix⟩ : ∃ x : Nat, x = wide - 1 - k := ⟨_, rfl⟩
      have hix2 : (wide : Int) - 1 - (k : Int) = (ix : Int) := by omega
      have hix3 := hide' hix2
      rw [← hix, Nat.zero_add] at hc hf hs hbe
      rw [hix2] at hge ⊢
      have hixl : ix < wide := by omega
      generalize hxx : n / 2 ^ (8 * k) = x at *
      have hw8 : IntKind.u8.wrap (x : Int) = ((x % 256 : Nat) : Int) := by
        unfold IntKind.wrap
        simp [IntKind.bits, IntKind.signed]
      rw [show ((x % 256 : Nat) : Int) = (x : Int) % 256 by omega] at hs hbe
      clear hxx hix
      go_wp2
      exact ⟨⟨k + 1, by omega, by rw [← hdv]; go_num, by have := hix3.out; simp only [Value.int.injEq, true_and]; omega, hs, hbe⟩, by simp [intOf] <;> omega⟩
    · have hge : (wide : Int) - 1 - (k : Int) < 0 := by omega
      obtain rfl : k = wide := by omega
      go_wp2
      go_ret
      exact ⟨rfl, hB, hW⟩
set_option maxRecDepth 100000 in
set_option maxHeartbeats 1000000 in
theorem valueD {W : World} {v : Value} {L : List Nat} (h : RowC W v L) (hb : ∀ z ∈ L, z < 256) (hl : L.length ≤ 8) : Calls Tryd.prog 20 #[v] W fun e w' => e = .returned (.int .u64 (numB L : Int)) ∧ w' = W := by
  obtain ⟨oa, cap, rfl, _, hc⟩ := h
  have hc' := hide' hc
  have hb' := hide' hb
  clear hc hb
  obtain ⟨m, hm⟩ : ∃ m, L.length = m := ⟨_, rfl⟩
  rw [hm] at hl ⊢
  have hm' := hide' hm
  clear hm
  go_enter Tryd.func20, Tryd.ntmps20
  go_wp2
  go_loopw [3, 4] (fun nv iv wr => wr = W ∧ ∃ i : Nat, iv = .int .i64 (i : Int) ∧ i ≤ m ∧ nv = .int .u64 (numB (L.take i) : Int)) (fun _ iv _ => ((m : Int) - intOf iv).toNat)
  case atStart => exact ⟨rfl, 0, rfl, by omega, rfl⟩
  case round =>
    obtain ⟨rfl, i, rfl, hi, rfl⟩ := hrel
    by_cases hik : i < m
    · have hik' : (i : Int) < (m : Int) := by omega
      obtain ⟨z, hz⟩ : ∃ z, L[i]? = some z := ⟨_, List.getElem?_eq_getElem (by rw [hm'.out]; exact hik)⟩
      obtain ⟨g, o, rfl, hcell⟩ := hc'.out i z hz
      have hz256 := hb'.out z (List.mem_of_getElem? hz)
      have hnb : numB (L.take i) < 72057594037927936 := by
        have h1 := numB_lt (L.take i) fun b hb => hb'.out b (List.mem_of_mem_take hb)
        rw [List.length_take] at h1
        have h2 : 256 ^ min i L.length ≤ 256 ^ 7 := Nat.pow_le_pow_right (by omega) (by rw [hm'.out]; omega)
        exact Nat.lt_of_lt_of_le h1 h2
      have hs : Hid (numB (L.take (i + 1)) = 256 * numB (L.take i) + z) := by
        obtain ⟨h1, h2⟩ := List.getElem?_eq_some_iff.1 hz
        unfold Hid
        rw [List.take_succ_eq_append_getElem h1, h2, numB_snoc]
      generalize numB (L.take i) = x at *
      clear hz
      go_wp2
      exact ⟨⟨trivial, i + 1, by go_num, by omega, by rw [hs.out]; go_num⟩, by simp [intOf]; omega⟩
    · have hik' : ¬ (i : Int) < (m : Int) := by omega
      go_wp2
      go_ret
      refine ⟨?_, rfl⟩
      rw [List.take_of_length_le (by rw [hm'.out]; omega)]
      rfl
end Go.Proofs.YtgfnfbbiojnhaaaDoor
