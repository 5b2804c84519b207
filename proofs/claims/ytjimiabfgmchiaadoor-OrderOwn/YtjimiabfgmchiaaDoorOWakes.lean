/- wakes answers true. -/
import Derived.Test.YtjimiabfgmchiaaDoorONew
import Derived.Test.YtjimiabfgmchiaaDoorOTwin
import Derived.Test.YtjimiabfgmchiaaDoorOLawM
namespace Go.Proofs.YtjimiabfgmchiaaDoor
open Go.RowKit Go.Shelf
def L2 : List (Int × Int) := [(0, 1), (1, 2)]
theorem good2 : goodP 3 L2 := ⟨by omega, fun p hp => by
  rcases List.mem_cons.1 hp with rfl | hp
  · unfold okP; decide
  · rcases List.mem_cons.1 hp with rfl | hp
    · unfold okP; decide
    · cases hp⟩
theorem ord2 : ∀ a b : Fin 3, ordL 3 L2 a.val b.val = decide (a.val < b.val) := by decide
theorem ncyc2 : ¬ cycL 3 L2 := by
  rintro ⟨a, ha, h⟩
  rw [ord2 ⟨a, ha⟩ ⟨a, ha⟩] at h
  simp at h
section
variable {Pf Sf : Nat → Nat} (h : Ord 3 (ordL 3 L2) Pf Sf)
include h
theorem suc2 (a : Nat) (ha : a < 3) (b : Nat) : (Sf a).testBit b = decide (a < b ∧ b < 3) := by
  rw [h.suc a ha]
  by_cases hb : b < 3
  · rw [ord2 ⟨a, ha⟩ ⟨b, hb⟩]; simp [hb]
  · cases e : ordL 3 L2 a b with
    | true => exact absurd (h.inn a b e).2 hb
    | false => simp [hb]
theorem pre2 (b : Nat) (hb : b < 3) : Pf b = 2 ^ b - 1 := by
  apply Nat.eq_of_testBit_eq
  intro a
  rw [h.pre b hb, Nat.testBit_two_pow_sub_one]
  by_cases ha : a < 3
  · rw [ord2 ⟨a, ha⟩ ⟨b, hb⟩]
  · cases e : ordL 3 L2 a b with
    | true => exact absurd (h.inn a b e).1 ha
    | false => simp; omega
theorem rdy2 : rdW 3 Pf 1 = 2 := by
  have hl : nums ((2 ^ 3 - 1) &&& (18446744073709551615 - 1)) = [1, 2] := by decide +kernel
  unfold rdW
  rw [hl]
  have e1 : rdF Pf 1 1 = 2 := by unfold rdF; rw [pre2 h 1 (by omega)]; decide +kernel
  have e2 : rdF Pf 1 2 = 0 := by unfold rdF; rw [pre2 h 2 (by omega)]; decide +kernel
  show (0 ||| rdF Pf 1 1) ||| rdF Pf 1 2 = 2
  rw [e1, e2]
  rfl
end
set_option maxRecDepth 100000 in
set_option maxHeartbeats 1000000 in
theorem wakes3 (w : World) (ht : Tab w) : Calls Tryd.prog 6 #[] w fun e w' => e = .returned (.bool true) ∧ Below w.heap.size w w' := by
  have hp : PairsAt (w.alloc (.cells #[.int .i64 0, .int .i64 1, .int .i64 1, .int .i64 2] 30)) (.slice (some ⟨w.heap.size, 0, none⟩) 2 2) L2 :=
    PairsAt.of_owns (n₀ := w.heap.size) (L := L2) (World.ownsRow_lit w #[.int .i64 0, .int .i64 1, .int .i64 1, .int .i64 2] 2 (Nat.le_refl _) (by decide) rfl)
  have hB0 : Below w.heap.size w (w.alloc (.cells #[.int .i64 0, .int .i64 1, .int .i64 1, .int .i64 2] 30)) := (Below.refl _ w).alloc (Nat.le_refl _) _
  have KN : Hid (Calls Tryd.prog 5 #[.int .i64 3, .slice (some ⟨w.heap.size, 0, none⟩) 2 2] (w.alloc (.cells #[.int .i64 0, .int .i64 1, .int .i64 1, .int .i64 2] 30)) fun e w' => ∃ go gp gs Pf Sf, e = .returned (.tuple #[.pointer (some ⟨go, 0, none⟩), .int .i64 0]) ∧ OrdAt w' go gp gs 3 Pf Sf ∧ Ord 3 (ordL 3 L2) Pf Sf ∧ Below w.heap.size w w') :=
    (newO 3 _ L2 _ hp (by decide) (ht.over hB0)).mono fun e w' ⟨hb, hor⟩ => by
      have hb' := hB0.trans (hb.mono (by simp))
      rcases hor with ⟨h, _⟩ | ⟨_, h, _⟩ | ⟨_, _, go, gp, gs, Pf, Sf, he, _, ho, hO⟩
      · exact absurd good2 h
      · exact absurd h ncyc2
      · exact ⟨go, gp, gs, Pf, Sf, he, ho, hO, hb'⟩
  clear hp
  go_enter Tryd.func6, Tryd.ntmps6
  go_wp2_with fail
  refine KN.out.mono ?_
  rintro e w1 ⟨go, gp, gs, Pf, Sf, rfl, ho, hO, hb1⟩
  clear KN
  have t1 : Tab w1 := ht.over hb1
  have hP : ∀ a, a < 3 → Pf a < 18446744073709551616 := fun a ha => hO.pre_lt ha
  go_wp2_with fail
  refine (lenO ho).mono ?_
  rintro e w1 ⟨rfl, rfl⟩
  have K1 : Hid (Calls Tryd.prog 26 #[.pointer (some ⟨go, 0, none⟩), .int .i64 0, .int .i64 2] w1 fun e w' => e = .returned (.bool true) ∧ Below w1.heap.size w1 w') := by
    have := beforeO ho 0 2 (Sf 0) rfl (hO.suc_lt (by omega))
    rwa [show (decide ((0 : Int) ≤ 2) && (Sf 0).testBit (2 : Int).toNat) = true by rw [show (2 : Int).toNat = 2 from rfl, suc2 hO 0 (by omega)]; rfl] at this
  go_wp2_with fail
  refine K1.out.mono ?_
  rintro e w3 ⟨rfl, hb3⟩
  have ho3 := ho.over hb3
  have K2 : Hid (Calls Tryd.prog 27 #[.pointer (some ⟨go, 0, none⟩), .int .i64 2] w3 fun e w' => e = .returned (.int .u64 3) ∧ Below w3.heap.size w3 w') := by
    have := predsT ho3 (a := 2) (by omega)
    rwa [pre2 hO 2 (by omega)] at this
  clear K1
  go_wp2_with fail
  refine K2.out.mono ?_
  rintro e w4 ⟨rfl, hb4⟩
  have ho4 := ho3.over hb4
  have B4 := (hb1.trans (hb3.mono hb1.size)).trans (hb4.mono (by have := hb1.size; have := hb3.size; omega))
  have K3 : Hid (Calls Tryd.prog 28 #[.pointer (some ⟨go, 0, none⟩), .int .u64 1] w4 fun e w' => e = .returned (.int .u64 2) ∧ Below w4.heap.size w4 w') := by
    have := readyO ho4 (by omega) hP 1 (by decide) (ht.over B4)
    rwa [rdy2 hO] at this
  clear K2
  go_wp2_with fail
  refine K3.out.mono ?_
  rintro e w5 ⟨rfl, hb5⟩
  have ho5 := ho4.over hb5
  have B5 := B4.trans (hb5.mono B4.size)
  have K4 : Hid (Calls Tryd.prog 26 #[.pointer (some ⟨go, 0, none⟩), .int .i64 2, .int .i64 0] w5 fun e w' => e = .returned (.bool false) ∧ Below w5.heap.size w5 w') := by
    have := beforeO ho5 2 0 (Sf 2) rfl (hO.suc_lt (by omega))
    rwa [show (decide ((0 : Int) ≤ 0) && (Sf 2).testBit (0 : Int).toNat) = false by rw [show (0 : Int).toNat = 0 from rfl, suc2 hO 2 (by omega)]; rfl] at this
  clear K3
  go_wp2_with fail
  refine K4.out.mono ?_
  rintro e w6 ⟨rfl, hb6⟩
  have B6 := B5.trans (hb6.mono B5.size)
  go_wp2
  go_ret
  exact ⟨rfl, B6⟩
end Go.Proofs.YtjimiabfgmchiaaDoor
