/- askers: the rows that may have a place. Without, where a place is there. -/
import Derived.Test.YtbbmjfjedonfaaaDoorMFree
import Derived.Test.YtbbmjfjedonfaaaDoorMCntM
import Derived.Test.YtbbmjfjedonfaaaDoorOnes
import Derived.Deep.RegionHeld3
namespace Go.Proofs.YtbbmjfjedonfaaaDoor.M
open Go.RowKit Go.Shelf
set_option maxHeartbeats 1000000 in
theorem withoutM (a : Nat) (ha : a < 18446744073709551616) (i : Nat) (hi : i < 64) (p q : Nat) (hp : IntKind.u64.wrap (IntKind.u64.wrap 1 * 2 ^ i) = (p : Int)) (hpl : p < 18446744073709551616) (hq : (a &&& (18446744073709551615 - p) : Nat) = q) (w : World) :
    Calls Tryd.prog 23 #[.agg #[.int .u64 a], .int .i64 i] w fun e w' => e = .returned (.agg #[.int .u64 q]) ∧ Below w.heap.size w w' := by
  have KF := hide' (fitsT64 a i ⟨by omega, by omega⟩)
  have KO := hide' (only64 a i hi p hp)
  have KR : Hid (∀ W, Calls Tryd.prog 38 #[.agg #[.int .u64 a], .agg #[.int .u64 p]] W fun e w' => e = .returned (.agg #[.int .u64 q]) ∧ Below W.heap.size W w') := by subst hq; exact minus64 a p ha hpl
  clear hq hp ha hpl
  go_enter Tryd.func23, Tryd.ntmps23
  go_wp2_with (go_at_call 37; refine (KF.out _).mono ?_; rintro e w1 ⟨rfl, hb⟩; obtain ⟨hc, hf⟩ := bcell hb)
  have hz : w.heap.size + 1 < w1.heap.size := by have := hb.size; simp at this; omega
  have c1 : w1.cell? ⟨w.heap.size, 0, none⟩ = some (.int .u64 a) := by rw [hc _ _ (by simp; omega)]; simp
  have c2 : w1.cell? ⟨w.heap.size + 1, 0, none⟩ = some (.int .u64 0) := by rw [hc _ _ (by simp)]; simp
  have f2 : w1.frozen? ⟨w.heap.size + 1, 0, none⟩ = false := by rw [hf _ _ (by simp)]; simp
  have B1 : Below w.heap.size w w1 := (((Below.refl _ w).alloc (Nat.le_refl _) _).alloc (by simp) _).trans (hb.mono (by simp; omega))
  clear hc hf hb
  go_region_with (first | (go_at_call 39; refine (KO.out _).mono ?_; rintro e w2 ⟨rfl, hb2⟩; have hz2 : w.heap.size + 1 < w2.heap.size := Nat.lt_of_lt_of_le hz hb2.size; have d1 : w2.cell? ⟨w.heap.size, 0, none⟩ = some (.int .u64 a) := (hb2.cell (p := ⟨w.heap.size, 0, none⟩) (by show w.heap.size < _; simp; omega)).trans c1; have d2 : w2.cell? ⟨w.heap.size + 1, 0, none⟩ = some (.int .u64 0) := (hb2.cell (p := ⟨w.heap.size + 1, 0, none⟩) hz).trans c2; have g2 : w2.frozen? ⟨w.heap.size + 1, 0, none⟩ = false := (hb2.frozen (p := ⟨w.heap.size + 1, 0, none⟩) hz).trans f2) | (go_at_call 38; refine (KR.out _).mono ?_; rintro e w3 ⟨rfl, hb3⟩; have c3 : w3.cell? ⟨w.heap.size + 1, 0, none⟩ = some (.int .u64 0) := (hb3.cell (p := ⟨w.heap.size + 1, 0, none⟩) hz2).trans d2; have f3 : w3.frozen? ⟨w.heap.size + 1, 0, none⟩ = false := (hb3.frozen (p := ⟨w.heap.size + 1, 0, none⟩) hz2).trans g2))
  all_goals go_wp2
  all_goals exact bodyPost_ret (v := .agg #[.int .u64 q]) (by simp [results, Tryd.results23, go_sem, c3]) rfl ⟨rfl, ((((B1.drew).trans (hb2.mono (by simp; omega))).trans (hb3.mono (by omega)))).setCell (by simp) _⟩
/-- The rows below k that may have u. -/
def askN (R : Nat → Nat) (u : Nat) : Nat → Nat
  | 0 => 0
  | k + 1 => if (R k).testBit u = true then askN R u k ||| 2 ^ k else askN R u k
theorem askN_lt (R : Nat → Nat) (u k : Nat) : askN R u k < 2 ^ k := by
  induction k with
  | zero => exact Nat.zero_lt_one
  | succ k ih =>
    rw [askN]
    have h1 : 2 ^ k < 2 ^ (k + 1) := Nat.pow_lt_pow_right (by decide) (by omega)
    split
    · exact Nat.or_lt_two_pow (Nat.lt_trans ih h1) h1
    · exact Nat.lt_trans ih h1
theorem askN_bit (R : Nat → Nat) (u k j : Nat) : (askN R u k).testBit j = (decide (j < k) && (R j).testBit u) := by
  induction k with
  | zero => simp [askN]
  | succ k ih =>
    rw [askN]
    by_cases e : j = k
    · subst e
      split
      · rename_i h
        rw [Nat.testBit_or, ih, Nat.testBit_two_pow, h]; simp
      · rename_i h
        rw [ih, Bool.eq_false_iff.2 h]; simp
    · have e' : ¬ k = j := fun h => e h.symm
      have hd : decide (j < k + 1) = decide (j < k) := decide_eq_decide.2 (by omega)
      rw [hd]
      split
      · rw [Nat.testBit_or, ih, Nat.testBit_two_pow]; simp [e']
      · exact ih
section
variable {n : Nat} {R : Nat → Nat} {w : World} {oa : Option Addr} {cap : Nat}
set_option maxRecDepth 100000 in
set_option maxHeartbeats 1000000 in
theorem askersF (hA : RwA w (.slice oa n cap) n R) (u : Nat) (hn : n ≤ 12) : Calls Tryd.prog 10 #[.slice oa n cap, .int .i64 (u : Int)] w fun e w' => e = .returned (.agg #[.int .u64 (askN R u n : Int)]) ∧ Below w.heap.size w w' := by
  obtain ⟨oa', cap', e9, hrw⟩ := hA.rw
  cases e9
  have hw := hide' hA.word
  have hrw' := hide' hrw
  clear hrw hA
  go_enter Tryd.func10, Tryd.ntmps10
  go_wp2
  have b0 : Hid (Boxed ((w.alloc (.cells #[.int .u64 0] 36)).alloc (.cells #[.int .u64 0] 36)) w.heap.size 36 (.int .u64 0)) := (Boxed.new w 36 (.int .u64 0)).alloc _
  have b1 : Hid (Boxed ((w.alloc (.cells #[.int .u64 0] 36)).alloc (.cells #[.int .u64 0] 36)) (w.heap.size + 1) 36 (.int .u64 0)) := by
    have := Boxed.new (w.alloc (.cells #[.int .u64 0] 36)) 36 (.int .u64 0)
    rwa [World.size_alloc] at this
  have hB0 : Hid (Below w.heap.size w ((w.alloc (.cells #[.int .u64 0] 36)).alloc (.cells #[.int .u64 0] 36))) := ((Below.refl _ w).alloc (Nat.le_refl _) _).alloc (by simp) _
  go_loopw [6, 7, 10] (fun _ _ p wr => ∃ c : Nat, c ≤ n ∧ p = .int .i64 (c : Int) ∧ Hid (Boxed wr w.heap.size 36 (.int .u64 0)) ∧ Hid (Boxed wr (w.heap.size + 1) 36 (.int .u64 (askN R u c : Int))) ∧ Hid (Below w.heap.size w wr)) (fun _ _ p _ => ((n : Int) - intOf p).toNat)
  case atStart => exact ⟨0, Nat.zero_le _, rfl, b0, b1, hB0⟩
  case round =>
    clear b0 b1 hB0
    obtain ⟨c, hc, rfl, b0, b1, hB⟩ := hrel
    by_cases hlt : c < n
    · have hlt' : (c : Int) < (n : Int) := by omega
      obtain ⟨g, o, rfl, hcr⟩ := hrw'.out c hlt
      have hRc := hw.out c
      have cz := cell_over hcr hB.out
      have hsn : Hid (askN R u (c + 1) = if (R c).testBit u = true then askN R u c ||| 2 ^ c else askN R u c) := rfl
      have hal : askN R u c < 18446744073709551616 := Nat.lt_of_lt_of_le (askN_lt R u c) (Nat.pow_le_pow_right (n := 2) (by decide) (show c ≤ 64 by omega))
      have hpl : 2 ^ c < 18446744073709551616 := Nat.pow_lt_pow_right (a := 2) (m := c) (n := 64) (by decide) (by omega)
      have KO := hide' (or64 (askN R u c) (2 ^ c) hal hpl)
      have KN := hide' (onlyC c (by omega))
      clear hal hpl hcr
      generalize ha2 : askN R u (c + 1) = a2 at *
      have Ha2 := hide' ha2
      clear ha2
      generalize askN R u c = a1 at *
      have KH := hide' (has64 (R c) hRc (u : Int))
      have ht : (decide ((0 : Int) ≤ (u : Int)) && (R c).testBit (u : Int).toNat) = (R c).testBit u := by simp
      rw [ht] at KH
      clear ht hRc
      generalize R c = rc at *
      go_wp2_with fail
      refine (ofC _ _).mono ?_
      rintro e w2 ⟨rfl, hb2⟩
      go_wp2_with fail
      refine (KH.out _).mono ?_
      rintro e w3 ⟨rfl, hb3⟩
      have hb3' : Below wr.heap.size wr w3 := hb2.trans (hb3.mono hb2.size)
      have hB3 : Hid (Below w.heap.size w w3) := hB.out.trans (hb3'.mono hB.out.size)
      have b03 : Hid (Boxed w3 w.heap.size 36 (.int .u64 0)) := (hb3'.block _ b0.out.lt).trans b0.out
      have b13 : Hid (Boxed w3 (w.heap.size + 1) 36 (.int .u64 (a1 : Int))) := (hb3'.block _ b1.out.lt).trans b1.out
      clear hb2 hb3 hb3' b0 b1 KH cz
      cases hbu : rc.testBit u with
      | false =>
        have e1 : a2 = a1 := by rw [hsn.out, if_neg (by rw [hbu]; decide)]
        subst e1
        go_wp2
        exact ⟨⟨c + 1, by omega, by go_num, b03, by rw [Ha2.out]; exact b13, hB3⟩, by simp [intOf]; omega⟩
      | true =>
        have e1 : a2 = a1 ||| 2 ^ c := by rw [hsn.out, if_pos hbu]
        rw [← e1] at KO
        clear e1 hsn hbu
        generalize (2 ^ c : Nat) = pc at *
        have c1 := b13.out.cell
        go_wp2
        go_region_with (first | (go_at_call 27; refine (KN.out _).mono ?_; rintro e w4 ⟨rfl, hb4⟩; have b14 : Boxed w4 (w.heap.size + 1) 36 (.int .u64 (a1 : Int)) := (hb4.block (w.heap.size + 1) b13.out.lt).trans b13.out; have c14 := b14.cell) | (go_at_call 26; refine (KO.out _).mono ?_; rintro e w5 ⟨rfl, hb5⟩; have b15 : Boxed w5 (w.heap.size + 1) 36 (.int .u64 (a1 : Int)) := (hb5.block (w.heap.size + 1) b14.lt).trans b14; have c15 := b15.cell; have f15 := b15.frozen))
        all_goals
          go_wp2
          have hb5' : Below w3.heap.size w3 w5 := (((Below.refl _ w3).drew).trans hb4).trans (hb5.mono hb4.size)
          have b05 : Boxed w5 w.heap.size 36 (.int .u64 0) := (hb5'.block _ b03.out.lt).trans b03.out
          exact ⟨⟨c + 1, by omega, by go_num, box_other b05 (by omega) _, by rw [Ha2.out]; exact b15.set _, (hB3.out.trans (hb5'.mono hB3.out.size)).setCell (p := ⟨w.heap.size + 1, 0, none⟩) (by show w.heap.size ≤ w.heap.size + 1; omega) _⟩, by simp [intOf]; omega⟩
    · obtain rfl : c = n := by omega
      have c1 := b1.out.cell
      have c0 := b0.out.cell
      have f0 := b0.out.frozen
      generalize ha : askN R u c = a at *
      have Ha := hide' ha
      clear ha
      go_wp2
      have bE := b0.out.set (.int .u64 (a : Int))
      have cE := bE.cell
      exact bodyPost_ret (v := .agg #[.int .u64 a]) (by simp [results, Tryd.results10, go_sem, cE]) rfl ⟨by rw [Ha.out], hB.out.setCell (Nat.le_refl _) _⟩
end
end Go.Proofs.YtbbmjfjedonfaaaDoor.M
