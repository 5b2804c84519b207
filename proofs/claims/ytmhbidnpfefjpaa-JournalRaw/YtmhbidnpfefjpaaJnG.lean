/- put, number: numbers in bytes. -/
import Derived.Test.YtmhbidnpfefjpaaJnF
import Derived.Test.YtmhbidnpfefjpaaDkT
namespace Go.Proofs.Ytmhbidnpfefjpaa
open Go.RowKit
set_option maxRecDepth 100000 in
set_option maxHeartbeats 1000000 in
theorem putF {W : World} {T : TypeId} {g o k cap : Nat} {L : List Nat} (h : BkT W T g L) (hk : o + k ≤ L.length) (hk8 : k ≤ 8) (n : Nat) (_ : n < 18446744073709551616) : Calls Try.prog 60 #[.slice (some ⟨g, o, none⟩) k cap, .int .u64 (n : Int)] W fun e w' => e = .returned (.tuple #[]) ∧ BkT w' T g (putL L o k n k) ∧ Kp g g W w' := by
  have h' := hide' h
  have hk' := hide' hk
  clear h hk
  go_enter Try.func60, Try.ntmps60
  go_wp2
  go_loopw [4, 7] (fun _ iv wr => ∃ i : Nat, iv = .int .i64 (i : Int) ∧ i ≤ k ∧ Hid (BkT wr T g (putL L o k n i)) ∧ Hid (Kp g g W wr)) (fun _ iv _ => ((k : Int) - intOf iv).toNat)
  case atStart => exact ⟨0, rfl, by omega, h', Kp.refl _ _ _⟩
  case round =>
    obtain ⟨i, rfl, hi, hB, hK⟩ := hrel
    by_cases hik : i < k
    · have hik' : (i : Int) < (k : Int) := by omega
      obtain ⟨y, hy⟩ : ∃ y, (putL L o k n i)[o + (k - 1 - i)]? = some y := ⟨_, List.getElem?_eq_getElem (by rw [putL_len]; have := hk'.out; omega)⟩
      have hxc := hB.out.cell hy
      have hxf := hB.out.free
      have hlt : 8 * i < 64 := by omega
      have hs := hide' (hB.out.set (o + (k - 1 - i)) (n / 2 ^ (8 * i) % 256))
      rw [show ((n / 2 ^ (8 * i) % 256 : Nat) : Int) = (n : Int) / 2 ^ (8 * i) % 256 by simp] at hs
      go_wp2
      exact ⟨⟨i + 1, by go_num, by omega, hs, hK.out.set _ _⟩, by simp [intOf]; omega⟩
    · have hik' : ¬ (i : Int) < (k : Int) := by omega
      have hik2 : i = k := by omega
      subst hik2
      go_wp2
      exact bodyPost_end (results_none rfl _ _ _) rfl ⟨rfl, hB.out, hK.out⟩
theorem or_byte {n b : Nat} (h : b < 256) (hn : n < 72057594037927936) : bits .or .u64 ((n : Int) * 256) (b : Int) = ((256 * n + b : Nat) : Int) := by
  rw [show (n : Int) * 256 = ((256 * n : Nat) : Int) by omega, u64_or_nat (256 * n) b (by omega) (by omega), show 256 * n ||| b = 2 ^ 8 * n ||| b from rfl, ← Nat.two_pow_add_eq_or_of_lt (i := 8) h n]
set_option maxRecDepth 100000 in
set_option maxHeartbeats 1000000 in
theorem numberF {W : World} {v : Value} {L : List Nat} (h : RowC W v L) (hb : ∀ z ∈ L, z < 256) (hl : L.length ≤ 7) : Calls Try.prog 57 #[v] W fun e w' => e = .returned (.int .u64 (numB L : Int)) ∧ w' = W := by
  obtain ⟨oa, cap, rfl, _, hc⟩ := h
  have hc' := hide' hc
  have hb' := hide' hb
  clear hc hb
  obtain ⟨m, hm⟩ : ∃ m, L.length = m := ⟨_, rfl⟩
  rw [hm] at hl ⊢
  have hm' := hide' hm
  clear hm
  go_enter Try.func57, Try.ntmps57
  go_wp2
  go_loopw [3, 5, 8] (fun nv _ iv wr => wr = W ∧ ∃ i : Nat, iv = .int .i64 (i : Int) ∧ i ≤ m ∧ nv = .int .u64 (numB (L.take i) : Int)) (fun _ _ iv _ => ((m : Int) - intOf iv).toNat)
  case atStart => exact ⟨rfl, 0, rfl, by omega, rfl⟩
  case round =>
    obtain ⟨rfl, i, rfl, hi, rfl⟩ := hrel
    by_cases hik : i < m
    · have hik' : (i : Int) < (m : Int) := by omega
      obtain ⟨z, hz⟩ : ∃ z, L[i]? = some z := ⟨_, List.getElem?_eq_getElem (by rw [hm'.out]; exact hik)⟩
      obtain ⟨g, o, rfl, hcell⟩ := hc'.out i z hz
      have hz256 := hb'.out z (List.mem_of_getElem? hz)
      have hnb : numB (L.take i) < 72057594037927936 := by
        have h1 := numB_lt (L.take i) fun b hb => hb'.out b (List.mem_of_mem_take hb)
        rw [List.length_take] at h1
        have h2 : 256 ^ min i L.length ≤ 256 ^ 7 := Nat.pow_le_pow_right (by omega) (by rw [hm'.out]; omega)
        exact Nat.lt_of_lt_of_le h1 h2
      have hs : Hid (numB (L.take (i + 1)) = 256 * numB (L.take i) + z) := by
        obtain ⟨h1, h2⟩ := List.getElem?_eq_some_iff.1 hz
        unfold Hid
        rw [List.take_succ_eq_append_getElem h1, h2, numB_snoc]
      have hob := or_byte hz256 hnb
      generalize numB (L.take i) = x at *
      clear hz
      go_wp2
      exact ⟨⟨trivial, i + 1, by go_num, by omega, by rw [hs.out]; go_num⟩, by simp [intOf]; omega⟩
    · have hik' : ¬ (i : Int) < (m : Int) := by omega
      go_wp2
      go_ret
      refine ⟨?_, rfl⟩
      rw [List.take_of_length_le (by rw [hm'.out]; omega)]
      rfl
theorem blockZ : (Try.prog.info? 79).map (·.zero) = some (some (.agg (cellsB z16).toArray)) := by kernel_rfl
theorem zeroJ (w : World) : (zeroValue 79).run Try.prog w = .ok (.agg (cellsB z16).toArray) w := by
  obtain ⟨i, hi, hz⟩ := Option.map_eq_some_iff.1 blockZ
  simp [zeroValue, typeInfo, hi, hz]
theorem blockS : (Try.prog.info? 79).map (·.size) = some 16 := by kernel_rfl
end Go.Proofs.Ytmhbidnpfefjpaa
