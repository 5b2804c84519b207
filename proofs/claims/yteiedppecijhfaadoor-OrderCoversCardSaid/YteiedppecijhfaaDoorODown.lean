/- Down: what it answers. -/
import Derived.Test.YteiedppecijhfaaDoorOReady
namespace Go.Proofs.YteiedppecijhfaaDoor
open Go.RowKit Go.Shelf
/-- Down, by words. -/
def dnB (n : Nat) (Pf : Nat → Nat) (d : Nat) : Bool := (d &&& (18446744073709551615 - (2 ^ n - 1)) == 0) && (orAll Pf (nums d) &&& (18446744073709551615 - d) == 0)
theorem in_sub {n d : Nat} (hn : n ≤ 64) (hd : d < 18446744073709551616) (h : (d &&& (18446744073709551615 - (2 ^ n - 1)) == 0) = true) : ∀ k ∈ nums d, k.val < n := fun k hk => by
  have := (sub_bits hd (allw_lt hn)).1 h k.val ((mem_nums d k).1 hk)
  rw [Nat.testBit_two_pow_sub_one] at this
  simpa using this
section
variable {go gp gs n : Nat} {Pf Sf : Nat → Nat} {w : World}
set_option maxHeartbeats 1000000 in
theorem downO (ho : OrdAt w go gp gs n Pf Sf) (hn : n ≤ 64) (hP : ∀ a, a < n → Pf a < 18446744073709551616) (d : Nat) (hd : d < 18446744073709551616) (ht : Tab w) :
    Calls Tryd.prog 17 #[.pointer (some ⟨go, 0, none⟩), .int .u64 d] w fun e W' => e = .returned (.bool (dnB n Pf d)) ∧ Below w.heap.size w W' := by
  have hal := allw_lt hn
  have KA : Hid (∀ W, Below w.heap.size w W → Calls Tryd.prog 36 #[.pointer (some ⟨go, 0, none⟩)] W fun e w' => e = .returned (.agg #[.int .u64 ((2 ^ n - 1 : Nat) : Int)]) ∧ Below W.heap.size W w') := fun W hB => allO (ho.over hB) hn
  have K1 := sub64 d (2 ^ n - 1) hd hal
  unfold dnB
  by_cases h : (d &&& (18446744073709551615 - (2 ^ n - 1)) == 0) = true
  · have hin := in_sub hn hd h
    have hlt : orAll Pf (nums d) < 18446744073709551616 := orAll_lt fun k hk => hP _ (hin k hk)
    have K2 := hide' (sub64 (orAll Pf (nums d)) d hlt hd)
    have K3 : Hid (∀ W, Below w.heap.size w W → Calls Tryd.prog 42 #[.pointer (some ⟨go, 0, none⟩), .agg #[.int .u64 d]] W fun e W' => e = .returned (.agg #[.int .u64 (orAll Pf (nums d) : Int)]) ∧ Below W.heap.size W W') := fun W hB => aheadO (ho.over hB) hP d hd hin (ht.over hB)
    rw [h] at K1 ⊢
    have K1' := hide' K1
    generalize orAll Pf (nums d) = y at *
    generalize 2 ^ n - 1 = al at *
    generalize (y &&& (18446744073709551615 - d) == 0) = t at *
    clear h K1 ho hP hin
    go_enter Tryd.func17, Tryd.ntmps17
    go_wp2_with fail
    refine (ofO _ _).mono ?_
    rintro e w1 ⟨rfl, hb1⟩
    go_wp2_with fail
    refine (KA.out _ hb1).mono ?_
    rintro e w2 ⟨rfl, hb2⟩
    have B2 := hb1.trans (hb2.mono hb1.size)
    go_wp2_with fail
    refine (K1'.out _).mono ?_
    rintro e w3 ⟨rfl, hb3⟩
    have B3 := B2.trans (hb3.mono B2.size)
    go_wp2_with fail
    refine (ofO _ _).mono ?_
    rintro e w4 ⟨rfl, hb4⟩
    have B4 := B3.trans (hb4.mono B3.size)
    go_wp2_with fail
    refine (K3.out _ B4).mono ?_
    rintro e w5 ⟨rfl, hb5⟩
    have B5 := B4.trans (hb5.mono B4.size)
    go_wp2_with fail
    refine (ofO _ _).mono ?_
    rintro e w6 ⟨rfl, hb6⟩
    have B6 := B5.trans (hb6.mono B5.size)
    go_wp2_with fail
    refine (K2.out _).mono ?_
    rintro e w7 ⟨rfl, hb7⟩
    have B7 := B6.trans (hb7.mono B6.size)
    go_wp2
    go_ret
    exact ⟨ret_bool (by simp), B7⟩
  · have hf : (d &&& (18446744073709551615 - (2 ^ n - 1)) == 0) = false := by simpa using h
    rw [hf] at K1 ⊢
    have K1' := hide' K1
    generalize 2 ^ n - 1 = al at *
    clear h hf K1 ho hP
    go_enter Tryd.func17, Tryd.ntmps17
    go_wp2_with fail
    refine (ofO _ _).mono ?_
    rintro e w1 ⟨rfl, hb1⟩
    go_wp2_with fail
    refine (KA.out _ hb1).mono ?_
    rintro e w2 ⟨rfl, hb2⟩
    have B2 := hb1.trans (hb2.mono hb1.size)
    go_wp2_with fail
    refine (K1'.out _).mono ?_
    rintro e w3 ⟨rfl, hb3⟩
    have B3 := B2.trans (hb3.mono B2.size)
    go_wp2
    go_ret
    exact ⟨ret_bool (by simp), B3⟩
end
end Go.Proofs.YteiedppecijhfaaDoor
