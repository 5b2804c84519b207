/- An order in memory, and its plain calls. -/
import Derived.Test.YtjimiabfgmchiaaDoorOMath
import Derived.Test.YtjimiabfgmchiaaDoorAll
namespace Go.Proofs.YtjimiabfgmchiaaDoor
open Go.RowKit Go.Shelf
/-- An order as it lies. -/
structure OrdAt (W : World) (go gp gs n : Nat) (Pf Sf : Nat → Nat) : Prop where
  o0 : W.cell? ⟨go, 0, none⟩ = some (.slice (some ⟨gp, 0, none⟩) n n)
  o1 : W.cell? ⟨go, 1, none⟩ = some (.slice (some ⟨gs, 0, none⟩) n n)
  pc : ∀ i : Nat, i < n → W.cell? ⟨gp, i, none⟩ = some (.int .u64 (Pf i : Int))
  sc : ∀ i : Nat, i < n → W.cell? ⟨gs, i, none⟩ = some (.int .u64 (Sf i : Int))
theorem cell_over {W W' : World} {b i : Nat} {v : Value} (h : W.cell? ⟨b, i, none⟩ = some v) (hb : Below W.heap.size W W') : W'.cell? ⟨b, i, none⟩ = some v := (hb.cell (p := ⟨b, i, none⟩) (cell_lt h)).trans h
theorem OrdAt.over {W W' : World} {go gp gs n : Nat} {Pf Sf : Nat → Nat} (h : OrdAt W go gp gs n Pf Sf) (hb : Below W.heap.size W W') : OrdAt W' go gp gs n Pf Sf :=
  ⟨cell_over h.o0 hb, cell_over h.o1 hb, fun i hi => cell_over (h.pc i hi) hb, fun i hi => cell_over (h.sc i hi) hb⟩
theorem hide' {p : Prop} (h : p) : Hid p := h
theorem shlc (i : Nat) (hi : i < 64) : IntKind.u64.wrap (2 ^ i) = ((2 ^ i : Nat) : Int) := by
  have h := shl64 i hi
  rwa [show IntKind.u64.wrap 1 = 1 by decide, Int.one_mul] at h
set_option maxHeartbeats 400000 in
theorem within (a n : Int) (w : World) :
    Calls Tryd.prog 19 #[.int .i64 a, .int .i64 n] w fun e w' => e = .returned (.bool (decide (0 ≤ a ∧ a < n))) ∧ w' = w := by
  by_cases h0 : 0 ≤ a
  · go_enter Tryd.func19, Tryd.ntmps19
    go_wp2
    go_ret
    exact ⟨ret_bool (by simp [h0]), rfl⟩
  · have hd : decide (0 ≤ a) = false := by simpa using h0
    go_enter Tryd.func19, Tryd.ntmps19
    go_wp2
    go_ret
    exact ⟨ret_bool (by simp), rfl⟩
theorem withinT {a n : Int} (h : 0 ≤ a ∧ a < n) (w : World) :
    Calls Tryd.prog 19 #[.int .i64 a, .int .i64 n] w fun e w' => e = .returned (.bool true) ∧ w' = w := (within a n w).mono fun _ _ h' => by rw [decide_eq_true h] at h'; exact h'
theorem withinF {a n : Int} (h : ¬ (0 ≤ a ∧ a < n)) (w : World) :
    Calls Tryd.prog 19 #[.int .i64 a, .int .i64 n] w fun e w' => e = .returned (.bool false) ∧ w' = w := (within a n w).mono fun _ _ h' => by rw [decide_eq_false h] at h'; exact h'
set_option maxHeartbeats 400000 in
theorem ofO (x : Int) (w : World) :
    Calls Tryd.prog 30 #[.int .u64 x] w fun e w' => e = .returned (.agg #[.int .u64 x]) ∧ Below w.heap.size w w' := by
  go_enter Tryd.func30, Tryd.ntmps30
  go_wp2_with (go_at_call 47; refine (of64 _ _ _).mono ?_; rintro e w1 ⟨rfl, hb⟩; obtain ⟨hc, hf⟩ := bcell hb)
  exact bodyPost_ret (v := .agg #[.int .u64 x]) (by simp [results, Tryd.results30, go_sem, hc]) rfl ⟨rfl, (((Below.refl _ w).alloc (Nat.le_refl _) _).trans (hb.mono (by simp))).setCell (by simp) _⟩
set_option maxHeartbeats 400000 in
theorem onlyO (i : Nat) (hi : i < 64) (w : World) :
    Calls Tryd.prog 21 #[.int .i64 i] w fun e w' => e = .returned (.agg #[.int .u64 ((2 ^ i : Nat) : Int)]) ∧ Below w.heap.size w w' := by
  have hsh := shlc i hi
  generalize hq : (2 ^ i : Nat) = p at hsh
  clear hq
  go_enter Tryd.func21, Tryd.ntmps21
  go_wp2_with (go_at_call 30; refine (ofO _ _).mono ?_; rintro e w1 ⟨rfl, hb⟩; obtain ⟨hc, hf⟩ := bcell hb)
  exact bodyPost_ret (v := .agg #[.int .u64 p]) (by simp [results, Tryd.results21, go_sem, hc]) rfl ⟨rfl, (((Below.refl _ w).alloc (Nat.le_refl _) _).trans (hb.mono (by simp))).setCell (by simp) _⟩
section
variable {go gp gs n : Nat} {Pf Sf : Nat → Nat} {w : World}
set_option maxHeartbeats 400000 in
theorem lenO (ho : OrdAt w go gp gs n Pf Sf) :
    Calls Tryd.prog 25 #[.pointer (some ⟨go, 0, none⟩)] w fun e w' => e = .returned (.int .i64 n) ∧ w' = w := by
  have c0 := ho.o0
  go_enter Tryd.func25, Tryd.ntmps25
  go_wp2
  go_ret
  exact ⟨rfl, rfl⟩
theorem all_word (h : n ≤ 64) : IntKind.u64.wrap (IntKind.u64.wrap (2 ^ n) - 1) = ((2 ^ n - 1 : Nat) : Int) := by
  by_cases e : n = 64
  · subst e; decide
  · rw [shlc n (by omega)]
    have h1 : (2 ^ n : Nat) < 18446744073709551616 := Nat.lt_of_lt_of_le (Nat.pow_lt_pow_right (by decide) (show n < 64 by omega)) (by decide)
    have h2 : 0 < (2 ^ n : Nat) := Nat.two_pow_pos n
    generalize (2 ^ n : Nat) = q at *
    simp only [IntKind.wrap, IntKind.bits, IntKind.signed]
    simp
    omega
set_option maxHeartbeats 400000 in
theorem allO (ho : OrdAt w go gp gs n Pf Sf) (hn : n ≤ 64) :
    Calls Tryd.prog 29 #[.pointer (some ⟨go, 0, none⟩)] w fun e w' => e = .returned (.agg #[.int .u64 ((2 ^ n - 1 : Nat) : Int)]) ∧ Below w.heap.size w w' := by
  have hw := all_word hn
  have KL := hide' (lenO (ho.over ((Below.refl _ w).alloc (Nat.le_refl _) (.cells #[.int .u64 0] 65))))
  generalize hq : (2 ^ n - 1 : Nat) = p at *
  clear hq ho
  go_enter Tryd.func29, Tryd.ntmps29
  go_wp2_with fail
  refine KL.out.mono ?_
  rintro e w1 ⟨rfl, rfl⟩
  go_wp2_with (go_at_call 30; refine (ofO _ _).mono ?_; rintro e w1 ⟨rfl, hb⟩; obtain ⟨hc, hf⟩ := bcell hb)
  exact bodyPost_ret (v := .agg #[.int .u64 p]) (by simp [results, Tryd.results29, go_sem, hc]) rfl ⟨rfl, (((Below.refl _ w).alloc (Nat.le_refl _) _).trans (hb.mono (by simp))).setCell (by simp) _⟩
set_option maxHeartbeats 400000 in
theorem predsT (ho : OrdAt w go gp gs n Pf Sf) {a : Nat} (ha : a < n) :
    Calls Tryd.prog 27 #[.pointer (some ⟨go, 0, none⟩), .int .i64 a] w fun e w' => e = .returned (.int .u64 (Pf a : Int)) ∧ Below w.heap.size w w' := by
  have c0 := ho.o0
  have c1 := ho.pc a ha
  have KL := hide' (lenO ho)
  have KW := hide' (withinT (a := a) (n := n) (by omega) w)
  go_enter Tryd.func27, Tryd.ntmps27
  go_wp2_with (first | (go_at_call 25; refine KL.out.mono ?_; rintro e w1 ⟨rfl, rfl⟩) | (go_at_call 19; refine KW.out.mono ?_; rintro e w1 ⟨rfl, rfl⟩) | (go_at_call 31; refine (word64 _ _).mono ?_; rintro e w1 ⟨rfl, hb⟩))
  go_ret
  exact ⟨rfl, hb⟩
set_option maxHeartbeats 400000 in
theorem predsF (ho : OrdAt w go gp gs n Pf Sf) {a : Int} (ha : ¬ (0 ≤ a ∧ a < n)) :
    Calls Tryd.prog 27 #[.pointer (some ⟨go, 0, none⟩), .int .i64 a] w fun e w' => e = .returned (.int .u64 0) ∧ w' = w := by
  have KL := hide' (lenO ho)
  have KW := hide' (withinF ha w)
  clear ha
  go_enter Tryd.func27, Tryd.ntmps27
  go_wp2_with (first | (go_at_call 25; refine KL.out.mono ?_; rintro e w1 ⟨rfl, rfl⟩) | (go_at_call 19; refine KW.out.mono ?_; rintro e w1 ⟨rfl, rfl⟩))
  go_ret
  exact ⟨rfl, rfl⟩
set_option maxHeartbeats 400000 in
theorem succsT (ho : OrdAt w go gp gs n Pf Sf) {a : Nat} (ha : a < n) :
    Calls Tryd.prog 53 #[.pointer (some ⟨go, 0, none⟩), .int .i64 a] w fun e w' => e = .returned (.int .u64 (Sf a : Int)) ∧ Below w.heap.size w w' := by
  have c0 := ho.o1
  have c1 := ho.sc a ha
  have KL := hide' (lenO ho)
  have KW := hide' (withinT (a := a) (n := n) (by omega) w)
  go_enter Tryd.func53, Tryd.ntmps53
  go_wp2_with (first | (go_at_call 25; refine KL.out.mono ?_; rintro e w1 ⟨rfl, rfl⟩) | (go_at_call 19; refine KW.out.mono ?_; rintro e w1 ⟨rfl, rfl⟩) | (go_at_call 31; refine (word64 _ _).mono ?_; rintro e w1 ⟨rfl, hb⟩))
  go_ret
  exact ⟨rfl, hb⟩
set_option maxHeartbeats 400000 in
theorem succsF (ho : OrdAt w go gp gs n Pf Sf) {a : Int} (ha : ¬ (0 ≤ a ∧ a < n)) :
    Calls Tryd.prog 53 #[.pointer (some ⟨go, 0, none⟩), .int .i64 a] w fun e w' => e = .returned (.int .u64 0) ∧ w' = w := by
  have KL := hide' (lenO ho)
  have KW := hide' (withinF ha w)
  clear ha
  go_enter Tryd.func53, Tryd.ntmps53
  go_wp2_with (first | (go_at_call 25; refine KL.out.mono ?_; rintro e w1 ⟨rfl, rfl⟩) | (go_at_call 19; refine KW.out.mono ?_; rintro e w1 ⟨rfl, rfl⟩))
  go_ret
  exact ⟨rfl, rfl⟩
/-- What Succs tells of any number. -/
def sucI (n : Nat) (Sf : Nat → Nat) (a : Int) : Nat := if 0 ≤ a ∧ a < n then Sf a.toNat else 0
def preI (n : Nat) (Pf : Nat → Nat) (a : Int) : Nat := if 0 ≤ a ∧ a < n then Pf a.toNat else 0
theorem succsO (ho : OrdAt w go gp gs n Pf Sf) (a : Int) :
    Calls Tryd.prog 53 #[.pointer (some ⟨go, 0, none⟩), .int .i64 a] w fun e w' => e = .returned (.int .u64 (sucI n Sf a : Int)) ∧ Below w.heap.size w w' := by
  by_cases h : 0 ≤ a ∧ a < n
  · obtain ⟨k, rfl⟩ := Int.eq_ofNat_of_zero_le h.1
    unfold sucI
    rw [if_pos h, Int.toNat_natCast]
    exact succsT ho (by omega)
  · unfold sucI
    rw [if_neg h]
    exact (succsF ho h).mono fun _ _ ⟨h1, h2⟩ => ⟨h1, h2 ▸ Below.refl _ _⟩
theorem predsO (ho : OrdAt w go gp gs n Pf Sf) (a : Int) :
    Calls Tryd.prog 27 #[.pointer (some ⟨go, 0, none⟩), .int .i64 a] w fun e w' => e = .returned (.int .u64 (preI n Pf a : Int)) ∧ Below w.heap.size w w' := by
  by_cases h : 0 ≤ a ∧ a < n
  · obtain ⟨k, rfl⟩ := Int.eq_ofNat_of_zero_le h.1
    unfold preI
    rw [if_pos h, Int.toNat_natCast]
    exact predsT ho (by omega)
  · unfold preI
    rw [if_neg h]
    exact (predsF ho h).mono fun _ _ ⟨h1, h2⟩ => ⟨h1, h2 ▸ Below.refl _ _⟩
set_option maxHeartbeats 400000 in
theorem beforeO (ho : OrdAt w go gp gs n Pf Sf) (a b : Int) (s : Nat) (hs : s = sucI n Sf a) (hlt : s < 18446744073709551616) :
    Calls Tryd.prog 26 #[.pointer (some ⟨go, 0, none⟩), .int .i64 a, .int .i64 b] w fun e w' => e = .returned (.bool (decide (0 ≤ b) && s.testBit b.toNat)) ∧ Below w.heap.size w w' := by
  have KS := succsO ho a
  rw [← hs] at KS
  have KS' := hide' KS
  clear KS hs
  go_enter Tryd.func26, Tryd.ntmps26
  go_wp2_with (first | (go_at_call 53; refine KS'.out.mono ?_; rintro e w1 ⟨rfl, hb1⟩) | (go_at_call 30; refine (ofO _ _).mono ?_; rintro e w2 ⟨rfl, hb2⟩) | (go_at_call 23; refine (has64 s hlt b _).mono ?_; rintro e w3 ⟨rfl, hb3⟩))
  go_ret
  exact ⟨rfl, (hb1.trans (hb2.mono hb1.size)).trans (hb3.mono (by have := hb1.size; have := hb2.size; omega))⟩
end
end Go.Proofs.YtjimiabfgmchiaaDoor
