/- The document's value: the number that bytes are. -/
import Derived.Test.YtfajgbdnfphajaaZdM
namespace Go.Proofs.Ytfajgbdnfphajaa.S
open Go.RowKit Go.Shelf
set_option maxRecDepth 100000 in
set_option maxHeartbeats 2000000 in
theorem valueF (L : List Nat) (v : Value) (w : World) (h : RowB w v L) (hb : ∀ b ∈ L, b < 256) (hl : L.length ≤ 8) :
    Calls Try.prog 18 #[v] w fun e w' => e = .returned (.int .u64 (valB L : Int)) ∧ w' = w := by
  obtain ⟨oa, cap, rfl, hc⟩ := h
  have hc' := hide' hc
  have hvb : Hid (∀ j, j < L.length → valB (L.take j) < 72057594037927936) := fun j hj => by
    have h1 := valB_lt (L.take j) (fun b hb' => hb b (List.mem_of_mem_take hb'))
    have h2 : (256 : Nat) ^ (L.take j).length ≤ 256 ^ 7 := Nat.pow_le_pow_right (by decide) (by rw [List.length_take]; omega)
    exact Nat.lt_of_lt_of_le h1 h2
  have hb' := hide' hb
  clear hc hb
  go_enter Try.func18, Try.ntmps18
  go_wp2
  go_loopw [3, 4] (fun q p wr => ∃ j : Nat, j ≤ L.length ∧ p = .int .i64 (j : Int) ∧ q = .int .u64 (valB (L.take j) : Int) ∧ Hid (wr = w)) (fun _ p _ => ((L.length : Int) - intOf p).toNat)
  case atStart => exact ⟨0, Nat.zero_le _, rfl, rfl, rfl⟩
  case round =>
    obtain ⟨j, hj, rfl, rfl, hwr⟩ := hrel
    obtain rfl : wr = w := hwr.out
    by_cases hlt : j < L.length
    · have hlt' : (j : Int) < (L.length : Int) := by omega
      obtain ⟨b, hbs⟩ : ∃ b, L[j]? = some b := ⟨_, List.getElem?_eq_getElem hlt⟩
      obtain ⟨g, o, rfl, d1⟩ := hc'.out j b hbs
      have hv := hvb.out j hlt
      have hb2 := hb'.out b (List.mem_of_getElem? hbs)
      have hsn : Hid (valB (L.take (j + 1)) = 256 * valB (L.take j) + b) := by unfold Hid; rw [List.take_add_one, hbs]; exact valB_snoc _ _
      generalize valB (L.take j) = q at *
      clear hbs hc' hvb hb' hwr
      go_wp2
      exact ⟨⟨j + 1, by omega, by go_num, by rw [hsn.out]; congr 1, (by first | exact True.intro | rfl)⟩, by simp [intOf]; omega⟩
    · obtain rfl : j = L.length := by omega
      rw [List.take_length]
      clear hc' hvb hb' hwr
      go_wp2
      go_ret
      exact ⟨rfl, rfl⟩
end Go.Proofs.Ytfajgbdnfphajaa.S
