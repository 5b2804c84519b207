/- A hierarchy in memory, and its plain calls. -/
import Derived.Test.YtegpgjiccpglbaaDoorYTz
import Derived.Deep.OwnRows
import Derived.Deep.Draws
namespace Go.Proofs.YtegpgjiccpglbaaDoor
open Go.RowKit
/-- Nothing but draws. -/
def Qt (w w' : World) : Prop := ∃ m, w' = w.drewN m
theorem Qt.refl (w : World) : Qt w w := ⟨0, rfl⟩
theorem Qt.trans {a b c : World} (h : Qt a b) (k : Qt b c) : Qt a c := by
  obtain ⟨n, rfl⟩ := h
  obtain ⟨m, rfl⟩ := k
  exact ⟨n + m, by simp⟩
theorem Qt.drew {a b : World} (h : Qt a b) : Qt a b.drew := h.trans ⟨1, rfl⟩
theorem Qt.below {w w' : World} (h : Qt w w') : Below w.heap.size w w' := by
  obtain ⟨m, rfl⟩ := h
  exact ⟨rfl, rfl, rfl, Nat.le_refl _, fun _ _ => rfl⟩
/-- A hierarchy as it lies. -/
structure RkAt (W : World) (b : Nat) (J : Nat → Nat) : Prop where
  row : W.rowIs b 50 64 (fun i => .int .u64 (J i : Int))
  wf : Wf J
  acy : Acy J
  tab : Tab W
  far : 1 ≤ b
section
variable {W W' : World} {b : Nat} {J : Nat → Nat}
theorem RkAt.lt (h : RkAt W b J) : b < W.heap.size := h.row.lt
theorem RkAt.over (h : RkAt W b J) (hb : Below W.heap.size W W') : RkAt W' b J :=
  ⟨h.row.of_block (hb.block b h.lt), h.wf, h.acy, h.tab.over hb, h.far⟩
theorem RkAt.drew (h : RkAt W b J) : RkAt W.drew b J := h.over (Below.refl _ _).drew
theorem RkAt.cell (h : RkAt W b J) {i : Nat} (hi : i < 64) : W.cell? ⟨b, i, none⟩ = some (.int .u64 (J i : Int)) := h.row.cell hi
theorem RkAt.frz (h : RkAt W b J) (i : Nat) : W.frozen? ⟨b, i, none⟩ = false := h.row.frozen i
end
theorem shlc (i : Nat) (hi : i < 64) : IntKind.u64.wrap (2 ^ i) = ((2 ^ i : Nat) : Int) := by
  have h := pow_lt64 hi
  have e : ((2 ^ i : Nat) : Int) = 2 ^ i := by simp
  rw [← e]
  generalize (2 ^ i : Nat) = q at h
  simp only [IntKind.wrap, IntKind.bits, IntKind.signed]
  simp
  omega
/-- Is it a place? -/
def okA (a : Int) : Bool := decide (0 ≤ a ∧ a < 64)
theorem okA_iff {a : Int} : okA a = true ↔ 0 ≤ a ∧ a < 64 := by simp [okA]
set_option maxHeartbeats 400000 in
theorem within (a : Int) (w : World) :
    Calls Tryd.prog 29 #[.int .i64 a] w fun e w' => e = .returned (.bool (okA a)) ∧ w' = w := by
  unfold okA
  by_cases h0 : 0 ≤ a
  · go_enter Tryd.func29, Tryd.ntmps29
    go_wp2
    go_ret
    exact ⟨ret_bool (by simp [h0]), rfl⟩
  · have hd : decide (0 ≤ a) = false := by simpa using h0
    go_enter Tryd.func29, Tryd.ntmps29
    go_wp2
    go_ret
    exact ⟨ret_bool (by simp), rfl⟩
theorem withinT {a : Int} (h : okA a = true) (w : World) :
    Calls Tryd.prog 29 #[.int .i64 a] w fun e w' => e = .returned (.bool true) ∧ w' = w := (within a w).mono fun _ _ h' => by rw [h] at h'; exact h'
theorem withinF {a : Int} (h : okA a = false) (w : World) :
    Calls Tryd.prog 29 #[.int .i64 a] w fun e w' => e = .returned (.bool false) ∧ w' = w := (within a w).mono fun _ _ h' => by rw [h] at h'; exact h'
set_option maxHeartbeats 400000 in
theorem onlyC (i p : Nat) (hi : i < 64) (hsh : IntKind.u64.wrap (2 ^ i) = (p : Int)) (w : World) :
    Calls Tryd.prog 31 #[.int .i64 i] w fun e w' => e = .returned (.int .u64 (p : Int)) ∧ w' = w := by
  go_enter Tryd.func31, Tryd.ntmps31
  go_wp2
  go_ret
  exact ⟨rfl, rfl⟩
theorem only (i : Nat) (hi : i < 64) (w : World) :
    Calls Tryd.prog 31 #[.int .i64 i] w fun e w' => e = .returned (.int .u64 ((2 ^ i : Nat) : Int)) ∧ w' = w := onlyC i _ hi (shlc i hi) w
theorem and_pow (s i : Nat) : ((s &&& 2 ^ i : Nat) != 0) = s.testBit i := by
  rw [Bool.eq_iff_iff, bne_iff_ne]
  constructor
  · intro h
    cases hb : s.testBit i with
    | true => rfl
    | false =>
      exfalso; apply h
      apply Nat.eq_of_testBit_eq; intro j
      rw [Nat.testBit_and, Nat.testBit_two_pow, Nat.zero_testBit]
      by_cases e : i = j
      · subst e; rw [hb]; rfl
      · simp [e]
  · intro h e
    have := congrArg (Nat.testBit · i) e
    simp [h] at this
set_option maxHeartbeats 400000 in
theorem inC (i p s : Nat) (t : Bool) (hp : ∀ w, Calls Tryd.prog 31 #[.int .i64 i] w fun e w' => e = .returned (.int .u64 (p : Int)) ∧ w' = w) (hq : (bits .and .u64 (s : Int) (p : Int) != 0) = t) (w : World) :
    Calls Tryd.prog 30 #[.int .i64 i, .int .u64 s] w fun e w' => e = .returned (.bool t) ∧ w' = w := by
  have hp' := hide' hp
  clear hp
  go_enter Tryd.func30, Tryd.ntmps30
  go_wp2_with (go_at_call 31; refine (hp'.out _).mono ?_; rintro e w1 ⟨rfl, rfl⟩)
  go_ret
  exact ⟨rfl, rfl⟩
theorem inR (i s : Nat) (hi : i < 64) (hs : s < 18446744073709551616) (w : World) :
    Calls Tryd.prog 30 #[.int .i64 i, .int .u64 s] w fun e w' => e = .returned (.bool (s.testBit i)) ∧ w' = w :=
  inC i _ s _ (only i hi) (by rw [u64_and_nat s _ hs (pow_lt64 hi), ne_cast, and_pow]) w
theorem pred_word (s : Nat) (hs : s < 18446744073709551616) (h0 : s ≠ 0) : bits .and .u64 (s : Int) (IntKind.u64.wrap ((s : Int) - 1)) = ((s &&& (s - 1) : Nat) : Int) := by
  have : IntKind.u64.wrap ((s : Int) - 1) = ((s - 1 : Nat) : Int) := by
    rw [IntKind.wrap_u64]; omega
  rw [this, u64_and_nat s _ hs (by omega)]
set_option maxRecDepth 100000 in
set_option maxHeartbeats 1000000 in
theorem next {b : Nat} {J : Nat → Nat} {w : World} (h : RkAt w b J) (s : Nat) (hs : s < 18446744073709551616) :
    Calls Tryd.prog 34 #[.pointer (some ⟨b, 0, none⟩), .int .u64 s] w fun e w' => e = .returned (.int .u64 (nxt J s : Int)) ∧ Qt w w' := by
  go_enter Tryd.func34, Tryd.ntmps34
  go_wp2
  go_loopw [1, 5] (fun x acc wr => ∃ (y : Nat) (pre : List (Fin 64)), y < 18446744073709551616 ∧ Hid (nums s = pre ++ nums y) ∧ x = .int .u64 y ∧ acc = .int .u64 (nxtL J pre : Int) ∧ Qt w wr) (fun x _ _ => (intOf x).toNat)
  case atStart => exact ⟨s, [], hs, rfl, rfl, rfl, Qt.refl _⟩
  case round =>
    obtain ⟨y, pre, hy, hp, rfl, rfl, hB⟩ := hrel
    by_cases h0 : y = 0
    · subst h0
      have he : nxtL J pre = nxt J s := by
        have := hp.out
        rw [nums_zero, List.append_nil] at this
        unfold nxt; rw [this]; rfl
      go_wp2
      go_ret
      exact ⟨by show Ending.returned (Value.int .u64 (nxtL J pre : Int)) = _; rw [he], hB⟩
    · obtain ⟨j, l, hn⟩ := nums_cons hy h0
      have hn' := hide' hn
      have hR := hide' (h.over hB.below)
      have KT := hide' (fun W (ht : Tab W) => tz64m y hy j l hn W ht)
      have hne : ((y : Int) != 0) = true := by rw [ne_cast]; simpa using h0
      have hc := hR.out.cell j.isLt
      have hor : bits .or .u64 (nxtL J pre : Int) (J j.val : Int) = ((nxtL J (pre ++ [j]) : Nat) : Int) := by
        rw [u64_or_nat _ _ (nxtL_lt h.wf pre) (h.wf _ j.isLt), nxtL_snoc]
      have hand := pred_word y hy h0
      have hand2 : bits .and .u64 (y : Int) ((y : Int) - 1) = ((y &&& (y - 1) : Nat) : Int) := by rw [show ((y : Int) - 1) = ((y - 1 : Nat) : Int) by omega, u64_and_nat y _ hy (by omega)]
      have hlt : y &&& (y - 1) < y := Nat.lt_of_le_of_lt Nat.and_le_right (by omega)
      have hnp : Hid (nums s = (pre ++ [j]) ++ nums (y &&& (y - 1))) := by show _ = _; rw [nums_pred hn, hp.out, hn]; simp
      have hj := j.isLt
      generalize hz : y &&& (y - 1) = z at *
      generalize hacc : nxtL J (pre ++ [j]) = acc' at *
      have hacc' := hide' hacc
      clear hacc
      generalize nxtL J pre = acc at *
      generalize J j.val = q at *
      generalize j.val = jj at *
      have hj1 : (0 : Int) ≤ (jj : Int) := by omega
      have hj2 : (jj : Int) < 64 := by omega
      have ht := hide' hR.out.drew.tab
      have hi0 : Hid (wr.drew.cell? ⟨b, jj, none⟩ = some (.int .u64 (q : Int))) := hc
      clear h0 hR
      go_wp2
      go_region_held3 (fun V => V.cell? ⟨b, jj, none⟩ = some (.int .u64 (q : Int))) (first | assumption | (exact hi0.out)) (first | (go_at_call 33; refine (KT.out _ ht.out).mono ?_; rintro e w3 ⟨rfl, rfl⟩))
      go_wp2
      go_roundw
      case rel => exact ⟨z, pre ++ [j], by omega, hnp, rfl, by rw [hacc'.out], hB.drew⟩
      case measure => simp [intOf]; omega
end Go.Proofs.YtegpgjiccpglbaaDoor
