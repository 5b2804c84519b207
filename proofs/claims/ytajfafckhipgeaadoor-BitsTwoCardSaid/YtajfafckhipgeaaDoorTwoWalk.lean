/- BitsTwo answers true for every two words, wherever the library's table lies as it is laid; it makes new memory alone. -/
import Derived.Test.YtajfafckhipgeaaDoorTwoLaw
namespace Go.Proofs.YtajfafckhipgeaaDoor
open Go.RowKit
theorem cell_al {W : World} {b i : Nat} {v : Value} (h : W.cell? ⟨b, i, none⟩ = some v) (o : Obj) : (W.alloc o).cell? ⟨b, i, none⟩ = some v :=
  (((Below.refl W.heap.size W).alloc (Nat.le_refl _) o).cell (p := ⟨b, i, none⟩) (cell_lt h)).trans h
theorem keep4 {w W w1 : World} {bx ba bb : Nat} {A B : Value}
    (h : W.cell? ⟨bx, 0, none⟩ = some A ∧ W.cell? ⟨bx, 1, none⟩ = some B ∧ W.cell? ⟨ba, 0, none⟩ = some A ∧ W.cell? ⟨bb, 0, none⟩ = some B ∧ bx < W.heap.size ∧ ba < W.heap.size ∧ bb < W.heap.size ∧ Below bx w W) (hb : Below W.heap.size W w1) :
    w1.cell? ⟨bx, 0, none⟩ = some A ∧ w1.cell? ⟨bx, 1, none⟩ = some B ∧ w1.cell? ⟨ba, 0, none⟩ = some A ∧ w1.cell? ⟨bb, 0, none⟩ = some B ∧ bx < w1.heap.size ∧ ba < w1.heap.size ∧ bb < w1.heap.size ∧ Below bx w w1 :=
  have ⟨h1, h2, h3, h4, l1, l2, l3, h5⟩ := h
  ⟨(hb.cell (p := ⟨bx, 0, none⟩) l1).trans h1, (hb.cell (p := ⟨bx, 1, none⟩) l1).trans h2, (hb.cell (p := ⟨ba, 0, none⟩) l2).trans h3, (hb.cell (p := ⟨bb, 0, none⟩) l3).trans h4, Nat.lt_of_lt_of_le l1 hb.size, Nat.lt_of_lt_of_le l2 hb.size, Nat.lt_of_lt_of_le l3 hb.size, h5.trans (hb.mono (Nat.le_of_lt l1))⟩
theorem hasQ (A : Nat) (hA : A < 18446744073709551616) (z : Int) (p : Bool) (hp : hasI A z = p) (W : World) :
    Calls Tryd.prog 9 #[.agg #[.int .u64 A], .int .i64 z] W fun e w' => e = .returned (.bool p) ∧ Below W.heap.size W w' := by subst hp; exact has64 A hA z W
set_option maxRecDepth 100000 in
set_option maxHeartbeats 4000000 in
theorem bitsTwo_walk (A B : Nat) (I K : Int) (hA : A < 18446744073709551616) (hB : B < 18446744073709551616) (w : World) (ht : Tab w) :
    Calls Tryd.prog 3 #[.agg #[.int .u64 A, .int .u64 B, .int .i64 I, .int .i64 K]] w fun e w' => e = .returned (.bool true) ∧ Below w.heap.size w w' := by
  go_enter Tryd.func3, Tryd.ntmps3
  go_wp2_with fail
  refine (of64 _ _ _).mono ?_
  rintro e w1 ⟨rfl, hb1⟩
  obtain ⟨c1, f1⟩ := bcell hb1
  have s1 : w.heap.size + 2 ≤ w1.heap.size := by have := hb1.size; simp at this; omega
  have x0 : w1.cell? ⟨w.heap.size, 0, none⟩ = some (.int .u64 A) := by rw [c1 _ _ (by simp; omega)]; simp
  have x1 : w1.cell? ⟨w.heap.size, 1, none⟩ = some (.int .u64 B) := by rw [c1 _ _ (by simp; omega)]; simp
  have x2 : w1.cell? ⟨w.heap.size + 1, 0, none⟩ = some (.int .u64 0) := by rw [c1 _ _ (by simp)]; simp
  have b1 : Below w.heap.size w w1 := (((Below.refl _ w).alloc (Nat.le_refl _) _).alloc (by simp) _).trans (hb1.mono (by simp; omega))
  clear c1 f1 hb1
  have n0 := cell_al x0
  have n1 := cell_al x1
  have n2 := cell_al x2
  go_wp2_with fail
  refine (of64 _ _ _).mono ?_
  rintro e w2 ⟨rfl, hb2⟩
  have s2 : w1.heap.size + 1 ≤ w2.heap.size := by have := hb2.size; simp at this; omega
  have y0 : w2.cell? ⟨w.heap.size, 0, none⟩ = some (.int .u64 A) := (hb2.cell (p := ⟨w.heap.size, 0, none⟩) (by simp; omega)).trans (n0 _)
  have y1 : w2.cell? ⟨w.heap.size, 1, none⟩ = some (.int .u64 B) := (hb2.cell (p := ⟨w.heap.size, 1, none⟩) (by simp; omega)).trans (n1 _)
  have y2 : w2.cell? ⟨w1.heap.size, 0, none⟩ = some (.int .u64 A) := (hb2.cell (p := ⟨w1.heap.size, 0, none⟩) (by simp)).trans (by simp)
  have b2 : Below w.heap.size w w2 := (b1.alloc b1.size _).trans (hb2.mono (by simp; omega))
  have k0 := keep4 (w := w) (W := w2.alloc (.cells #[.int .u64 B] 26)) (w1 := w2.alloc (.cells #[.int .u64 B] 26)) (bx := w.heap.size) (ba := w1.heap.size) (bb := w2.heap.size) (A := .int .u64 A) (B := .int .u64 B) ⟨cell_al y0 _, cell_al y1 _, cell_al y2 _, by simp, by simp; omega, by simp; omega, by simp, b2.alloc b2.size _⟩ (Below.refl _ _)
  clear n0 n1 n2 x0 x1 x2 hb2 y0 y1 y2 b1 b2
  go_wp2
  have h3 := ht.2
  generalize w1.heap.size = ba at *
  generalize w2.heap.size = bb at *
  generalize hbx : w.heap.size = bx at *
  have Hbx : Hid (w.heap.size = bx) := hbx
  clear hbx
  go_loopw [6, 7, 8] (fun s m i wr => ∃ (n : Nat) (z : Int), n ≤ 69 ∧ i = .int .i64 z ∧ Hid (z = (n : Int) - 2) ∧ s = .bool (subTo A B n) ∧ m = .bool (meetTo A B n) ∧ (wr.cell? ⟨bx, 0, none⟩ = some (.int .u64 A) ∧ wr.cell? ⟨bx, 1, none⟩ = some (.int .u64 B) ∧ wr.cell? ⟨ba, 0, none⟩ = some (.int .u64 A) ∧ wr.cell? ⟨bb, 0, none⟩ = some (.int .u64 B) ∧ bx < wr.heap.size ∧ ba < wr.heap.size ∧ bb < wr.heap.size ∧ Below bx w wr)) (fun _ _ i _ => (67 - intOf i).toNat)
  case atStart => exact ⟨0, -2, by omega, rfl, by show (-2 : Int) = _; simp, rfl, rfl, k0⟩
  case round =>
    clear k0
    obtain ⟨n, z, hn, rfl, hz, rfl, rfl, hk⟩ := hrel
    by_cases hlt : z < 67
    · have hz0 : -2 ≤ z := by rw [hz.out]; omega
      have hS : Hid (subTo A B (n + 1) = (subTo A B n && (!hasI A z || hasI B z))) := by show _ = _; rw [subTo_succ, hz.out]
      have hM : Hid (meetTo A B (n + 1) = (meetTo A B n || (hasI A z && hasI B z))) := by show _ = _; rw [meetTo_succ, hz.out]
      have hin : z < 0 ∨ 64 ≤ z → hasI A z = false ∧ hasI B z = false := fun h => ⟨has_out hA (by omega), has_out hB (by omega)⟩
      obtain ⟨C1, e1⟩ : ∃ c, A &&& B = c := ⟨_, rfl⟩
      obtain ⟨C2, e2⟩ : ∃ c, A ||| B = c := ⟨_, rfl⟩
      obtain ⟨C3, e3⟩ : ∃ c, A &&& (18446744073709551615 - B) = c := ⟨_, rfl⟩
      obtain ⟨C4, e4⟩ : ∃ c, A ^^^ B = c := ⟨_, rfl⟩
      obtain ⟨C5, e5⟩ : ∃ c, 18446744073709551615 - A = c := ⟨_, rfl⟩
      have l1 : C1 < 18446744073709551616 := by rw [← e1]; exact Nat.lt_of_le_of_lt Nat.and_le_left hA
      have l2 : C2 < 18446744073709551616 := by rw [← e2]; exact Nat.or_lt_two_pow (n := 64) hA hB
      have l3 : C3 < 18446744073709551616 := by rw [← e3]; exact Nat.lt_of_le_of_lt Nat.and_le_left hA
      have l4 : C4 < 18446744073709551616 := by rw [← e4]; exact Nat.xor_lt_two_pow (n := 64) hA hB
      have l5 : C5 < 18446744073709551616 := by omega
      have k1 : Hid (∀ W, Calls Tryd.prog 10 #[.agg #[.int .u64 A], .agg #[.int .u64 B]] W fun e w' => e = .returned (.agg #[.int .u64 C1]) ∧ Below W.heap.size W w') := by subst e1; exact and64 A B hA hB
      have k2 : Hid (∀ W, Calls Tryd.prog 11 #[.agg #[.int .u64 A], .agg #[.int .u64 B]] W fun e w' => e = .returned (.agg #[.int .u64 C2]) ∧ Below W.heap.size W w') := by subst e2; exact or64 A B hA hB
      have k3 : Hid (∀ W, Calls Tryd.prog 12 #[.agg #[.int .u64 A], .agg #[.int .u64 B]] W fun e w' => e = .returned (.agg #[.int .u64 C3]) ∧ Below W.heap.size W w') := by subst e3; exact minus64 A B hA hB
      have k4 : Hid (∀ W, Calls Tryd.prog 13 #[.agg #[.int .u64 A], .agg #[.int .u64 B]] W fun e w' => e = .returned (.agg #[.int .u64 C4]) ∧ Below W.heap.size W w') := by subst e4; exact xor64 A B hA hB
      have k5 : Hid (∀ W, Calls Tryd.prog 14 #[.agg #[.int .u64 A]] W fun e w' => e = .returned (.agg #[.int .u64 C5]) ∧ Below W.heap.size W w') := by subst e5; exact not64 A hA
      have q1 : hasI C1 z = (hasI A z && hasI B z) := by rw [← e1]; exact has_and A B z
      have q2 : hasI C2 z = (hasI A z || hasI B z) := by rw [← e2]; exact has_or A B z
      have q3 : hasI C3 z = (hasI A z && !hasI B z) := by rw [← e3]; exact has_minus A B hA hB z
      have q4 : hasI C4 z = (hasI A z != hasI B z) := by rw [← e4]; exact has_xor A B z
      have q5 : hasI C5 z = (decide (0 ≤ z ∧ z < 64) && !hasI A z) := by
        by_cases h : 0 ≤ z ∧ z < 64
        · rw [← e5, has_not A hA z h]; simp [h]
        · rw [has_out l5 h]; simp [h]
      generalize hp : hasI A z = p at *
      generalize hq : hasI B z = q at *
      have KA : Hid _ := hasQ A hA z p hp
      have KB : Hid _ := hasQ B hB z q hq
      have K1 : Hid _ := hasQ C1 l1 z _ q1
      have K2 : Hid _ := hasQ C2 l2 z _ q2
      have K3 : Hid _ := hasQ C3 l3 z _ q3
      have K4 : Hid _ := hasQ C4 l4 z _ q4
      have K5 : Hid _ := hasQ C5 l5 z _ q5
      clear hp hq q1 q2 q3 q4 q5 e1 e2 e3 e4 e5 l1 l2 l3 l4 l5 hA hB ht
      generalize subTo A B n = s at *
      generalize meetTo A B n = m at *
      by_cases h0 : 0 ≤ z
      · by_cases h1 : z < 64
        · have hd : decide (0 ≤ z ∧ z < 64) = true := by simp [h0, h1]
          rw [hd] at K5
          clear hd hin
          cases p <;> cases q <;> cases s <;> cases m
          all_goals go_wp2_with (first | (go_at_call_of 9 ((A : Nat) : Int); refine (KA.out _).mono ?_; rintro e w3 ⟨rfl, hb⟩; replace hk := keep4 hk hb; clear hb) | (go_at_call_of 9 ((B : Nat) : Int); refine (KB.out _).mono ?_; rintro e w3 ⟨rfl, hb⟩; replace hk := keep4 hk hb; clear hb) | (go_at_call_of 9 ((C1 : Nat) : Int); refine (K1.out _).mono ?_; rintro e w3 ⟨rfl, hb⟩; replace hk := keep4 hk hb; clear hb) | (go_at_call_of 9 ((C2 : Nat) : Int); refine (K2.out _).mono ?_; rintro e w3 ⟨rfl, hb⟩; replace hk := keep4 hk hb; clear hb) | (go_at_call_of 9 ((C3 : Nat) : Int); refine (K3.out _).mono ?_; rintro e w3 ⟨rfl, hb⟩; replace hk := keep4 hk hb; clear hb) | (go_at_call_of 9 ((C4 : Nat) : Int); refine (K4.out _).mono ?_; rintro e w3 ⟨rfl, hb⟩; replace hk := keep4 hk hb; clear hb) | (go_at_call_of 9 ((C5 : Nat) : Int); refine (K5.out _).mono ?_; rintro e w3 ⟨rfl, hb⟩; replace hk := keep4 hk hb; clear hb) | (go_at_call 10; refine (k1.out _).mono ?_; rintro e w3 ⟨rfl, hb⟩; replace hk := keep4 hk hb; clear hb) | (go_at_call 11; refine (k2.out _).mono ?_; rintro e w3 ⟨rfl, hb⟩; replace hk := keep4 hk hb; clear hb) | (go_at_call 12; refine (k3.out _).mono ?_; rintro e w3 ⟨rfl, hb⟩; replace hk := keep4 hk hb; clear hb) | (go_at_call 13; refine (k4.out _).mono ?_; rintro e w3 ⟨rfl, hb⟩; replace hk := keep4 hk hb; clear hb) | (go_at_call 14; refine (k5.out _).mono ?_; rintro e w3 ⟨rfl, hb⟩; replace hk := keep4 hk hb; clear hb))
          all_goals exact ⟨⟨n + 1, z + 1, by have := hz.out; omega, rfl, by show z + 1 = _; rw [hz.out]; omega, by rw [hS.out]; rfl, by rw [hM.out]; rfl, hk⟩, by simp [intOf]; omega⟩
        · have hd : decide (0 ≤ z ∧ z < 64) = false := by simp [h1]
          rw [hd] at K5
          obtain ⟨rfl, rfl⟩ := hin (.inr (by omega))
          clear hd hin
          cases s <;> cases m
          all_goals go_wp2_with (first | (go_at_call_of 9 ((A : Nat) : Int); refine (KA.out _).mono ?_; rintro e w3 ⟨rfl, hb⟩; replace hk := keep4 hk hb; clear hb) | (go_at_call_of 9 ((B : Nat) : Int); refine (KB.out _).mono ?_; rintro e w3 ⟨rfl, hb⟩; replace hk := keep4 hk hb; clear hb) | (go_at_call_of 9 ((C1 : Nat) : Int); refine (K1.out _).mono ?_; rintro e w3 ⟨rfl, hb⟩; replace hk := keep4 hk hb; clear hb) | (go_at_call_of 9 ((C2 : Nat) : Int); refine (K2.out _).mono ?_; rintro e w3 ⟨rfl, hb⟩; replace hk := keep4 hk hb; clear hb) | (go_at_call_of 9 ((C3 : Nat) : Int); refine (K3.out _).mono ?_; rintro e w3 ⟨rfl, hb⟩; replace hk := keep4 hk hb; clear hb) | (go_at_call_of 9 ((C4 : Nat) : Int); refine (K4.out _).mono ?_; rintro e w3 ⟨rfl, hb⟩; replace hk := keep4 hk hb; clear hb) | (go_at_call_of 9 ((C5 : Nat) : Int); refine (K5.out _).mono ?_; rintro e w3 ⟨rfl, hb⟩; replace hk := keep4 hk hb; clear hb) | (go_at_call 10; refine (k1.out _).mono ?_; rintro e w3 ⟨rfl, hb⟩; replace hk := keep4 hk hb; clear hb) | (go_at_call 11; refine (k2.out _).mono ?_; rintro e w3 ⟨rfl, hb⟩; replace hk := keep4 hk hb; clear hb) | (go_at_call 12; refine (k3.out _).mono ?_; rintro e w3 ⟨rfl, hb⟩; replace hk := keep4 hk hb; clear hb) | (go_at_call 13; refine (k4.out _).mono ?_; rintro e w3 ⟨rfl, hb⟩; replace hk := keep4 hk hb; clear hb) | (go_at_call 14; refine (k5.out _).mono ?_; rintro e w3 ⟨rfl, hb⟩; replace hk := keep4 hk hb; clear hb))
          all_goals exact ⟨⟨n + 1, z + 1, by have := hz.out; omega, rfl, by show z + 1 = _; rw [hz.out]; omega, by rw [hS.out]; rfl, by rw [hM.out]; rfl, hk⟩, by simp [intOf]; omega⟩
      · have hd : decide (0 ≤ z ∧ z < 64) = false := by simp [h0]
        rw [hd] at K5
        obtain ⟨rfl, rfl⟩ := hin (.inl (by omega))
        clear hd hin
        have h0' : decide (0 ≤ z) = false := by simpa using h0
        cases s <;> cases m
        all_goals go_wp2_with (first | (go_at_call_of 9 ((A : Nat) : Int); refine (KA.out _).mono ?_; rintro e w3 ⟨rfl, hb⟩; replace hk := keep4 hk hb; clear hb) | (go_at_call_of 9 ((B : Nat) : Int); refine (KB.out _).mono ?_; rintro e w3 ⟨rfl, hb⟩; replace hk := keep4 hk hb; clear hb) | (go_at_call_of 9 ((C1 : Nat) : Int); refine (K1.out _).mono ?_; rintro e w3 ⟨rfl, hb⟩; replace hk := keep4 hk hb; clear hb) | (go_at_call_of 9 ((C2 : Nat) : Int); refine (K2.out _).mono ?_; rintro e w3 ⟨rfl, hb⟩; replace hk := keep4 hk hb; clear hb) | (go_at_call_of 9 ((C3 : Nat) : Int); refine (K3.out _).mono ?_; rintro e w3 ⟨rfl, hb⟩; replace hk := keep4 hk hb; clear hb) | (go_at_call_of 9 ((C4 : Nat) : Int); refine (K4.out _).mono ?_; rintro e w3 ⟨rfl, hb⟩; replace hk := keep4 hk hb; clear hb) | (go_at_call_of 9 ((C5 : Nat) : Int); refine (K5.out _).mono ?_; rintro e w3 ⟨rfl, hb⟩; replace hk := keep4 hk hb; clear hb) | (go_at_call 10; refine (k1.out _).mono ?_; rintro e w3 ⟨rfl, hb⟩; replace hk := keep4 hk hb; clear hb) | (go_at_call 11; refine (k2.out _).mono ?_; rintro e w3 ⟨rfl, hb⟩; replace hk := keep4 hk hb; clear hb) | (go_at_call 12; refine (k3.out _).mono ?_; rintro e w3 ⟨rfl, hb⟩; replace hk := keep4 hk hb; clear hb) | (go_at_call 13; refine (k4.out _).mono ?_; rintro e w3 ⟨rfl, hb⟩; replace hk := keep4 hk hb; clear hb) | (go_at_call 14; refine (k5.out _).mono ?_; rintro e w3 ⟨rfl, hb⟩; replace hk := keep4 hk hb; clear hb))
        all_goals exact ⟨⟨n + 1, z + 1, by have := hz.out; omega, rfl, by show z + 1 = _; rw [hz.out]; omega, by rw [hS.out]; rfl, by rw [hM.out]; rfl, hk⟩, by simp [intOf]; omega⟩
    · obtain rfl : n = 69 := by have := hz.out; omega
      have KS : Hid (∀ W, Calls Tryd.prog 15 #[.agg #[.int .u64 A], .agg #[.int .u64 B]] W fun e w' => e = .returned (.bool (subTo A B 69)) ∧ Below W.heap.size W w') := by rw [← sub_end A B hA hB]; exact sub64 A B hA hB
      have KM : Hid (∀ W, Calls Tryd.prog 16 #[.agg #[.int .u64 A], .agg #[.int .u64 B]] W fun e w' => e = .returned (.bool (meetTo A B 69)) ∧ Below W.heap.size W w') := by rw [← meet_end A B hA]; exact meets64 A B hA hB
      have KC : Hid _ := cmp64 A B
      have KR : Hid _ := refCmp A B
      have KE : Hid (∀ W, Calls Tryd.prog 17 #[.agg #[.int .u64 A], .agg #[.int .u64 A]] W fun e w' => e = .returned (.int .i64 0) ∧ Below W.heap.size W w') := fun W => by have := cmp64 A A W; simpa using this
      generalize (if A < B then (-1 : Int) else if B < A then 1 else 0) = c at *
      generalize subTo A B 69 = s at *
      generalize meetTo A B 69 = m at *
      have KW : Hid (∀ W, Below bx w W → Calls Tryd.prog 20 #[] W fun e w' => e = .returned (.bool true) ∧ Below W.heap.size W w') := fun W hW => wakes W (ht.below h3 hW)
      have z1 : 67 ≤ z := by omega
      clear hA hB ht
      go_wp2
      go_region_held3 (fun W => W.cell? ⟨bx, 0, none⟩ = some (.int .u64 A) ∧ W.cell? ⟨bx, 1, none⟩ = some (.int .u64 B) ∧ W.cell? ⟨ba, 0, none⟩ = some (.int .u64 A) ∧ W.cell? ⟨bb, 0, none⟩ = some (.int .u64 B) ∧ bx < W.heap.size ∧ ba < W.heap.size ∧ bb < W.heap.size ∧ Below bx w W) (first | (exact keep4 (by assumption) hb) | (exact keep4 (keep4 hk (Below.refl _ _).drew) hb) | (exact keep4 hk (Below.refl _ _).drew) | assumption) (first | (go_at_call 15; refine (KS.out _).mono ?_; rintro e w3 ⟨rfl, hb⟩) | (go_at_call 16; refine (KM.out _).mono ?_; rintro e w3 ⟨rfl, hb⟩) | (go_at_call_of 17 ((B : Nat) : Int); refine (KC.out _).mono ?_; rintro e w3 ⟨rfl, hb⟩) | (go_at_call 18; refine (KR.out _).mono ?_; rintro e w3 ⟨rfl, rfl⟩) | (go_at_call 17; refine (KE.out _).mono ?_; rintro e w3 ⟨rfl, hb⟩) | (go_at_call 19; refine (word64 _ _).mono ?_; rintro e w3 ⟨rfl, hb⟩) | (go_at_call 20; refine (KW.out _ ‹_ ∧ _ ∧ _ ∧ _ ∧ _ ∧ _ ∧ _ ∧ Below _ _ _›.2.2.2.2.2.2.2).mono ?_; rintro e w3 ⟨rfl, hb⟩))
      all_goals go_wp2
      all_goals go_ret
      all_goals exact ⟨rfl, by rw [Hbx.out]; exact ‹_ ∧ _ ∧ _ ∧ _ ∧ _ ∧ _ ∧ _ ∧ Below _ _ _›.2.2.2.2.2.2.2⟩
end Go.Proofs.YtajfafckhipgeaaDoor
