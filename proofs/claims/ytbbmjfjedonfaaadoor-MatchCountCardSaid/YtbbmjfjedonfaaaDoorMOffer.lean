/- offer: a place is offered to the rows that may have it, set by set, falling. -/
import Derived.Test.YtbbmjfjedonfaaaDoorMAsk
namespace Go.Proofs.YtbbmjfjedonfaaaDoor.M
open Go.RowKit Go.Shelf
theorem i64_andNot_nat (a b : Nat) (ha : a < 9223372036854775808) (hb : b < 9223372036854775808) : bits .andNot .i64 (a : Int) (b : Int) = ((a &&& (18446744073709551615 - b) : Nat) : Int) := by
  have hx : a &&& (18446744073709551615 - b) ≤ a := Nat.and_le_left
  show IntKind.i64.wrap ((BitVec.ofInt 64 (a : Int) &&& ~~~BitVec.ofInt 64 (b : Int)).toNat : Int) = _
  rw [BitVec.toNat_and, BitVec.toNat_not, ofInt_u64 a (by omega), ofInt_u64 b (by omega)]
  have e : 2 ^ 64 - 1 - b = 18446744073709551615 - b := by omega
  rw [e]
  simp [IntKind.wrap, IntKind.bits, IntKind.signed]
  omega
/-- A table of ways as it lies in memory. -/
def cval (M : Nat) (f : Nat → Nat) : Nat → Value := fun i => if i = 0 then .int .u64 (M : Int) else .int .u64 (f (i - 1) : Int)
def CAt (W : World) (g M : Nat) (f : Nat → Nat) : Prop := W.rowIs g 33 4097 (cval M f)
section
variable {W W' : World} {g M : Nat} {f : Nat → Nat}
theorem CAt.cell0 (h : CAt W g M f) : W.cell? ⟨g, 0, none⟩ = some (.int .u64 (M : Int)) := World.rowIs.cell h (by decide)
theorem CAt.cellW (h : CAt W g M f) {s : Nat} (hs : s < 4096) : W.cell? ⟨g, 1 + s, none⟩ = some (.int .u64 (f s : Int)) := by
  have := World.rowIs.cell h (i := 1 + s) (by omega)
  rw [this]
  unfold cval
  rw [if_neg (by omega), show 1 + s - 1 = s by omega]
theorem CAt.frz (h : CAt W g M f) (i : Nat) : W.frozen? ⟨g, i, none⟩ = false := World.rowIs.frozen h i
theorem CAt.lt (h : CAt W g M f) : g < W.heap.size := World.rowIs.lt h
theorem CAt.of (h : CAt W g M f) (e : W'.heap[g]? = W.heap[g]?) : CAt W' g M f := World.rowIs.of_block h e
theorem CAt.below (h : CAt W g M f) (hb : Below W.heap.size W W') : CAt W' g M f := h.of (hb.block g h.lt)
theorem CAt.setW (h : CAt W g M f) (s v : Nat) : CAt (W.setCell ⟨g, 1 + s, none⟩ (.int .u64 (v : Int))) g M (upd f s v) :=
  World.rowIs.congr (World.rowIs.set h (1 + s) _) fun i hi => by
    unfold cval
    by_cases e : i = 1 + s
    · subst e
      rw [if_pos rfl, if_neg (by omega), show 1 + s - 1 = s by omega, upd_same]
    · rw [if_neg e]
      by_cases h0 : i = 0
      · rw [if_pos h0, if_pos h0]
      · rw [if_neg h0, if_neg h0, upd_ne _ _ (by omega)]
end
/-- What stands while a place is offered. -/
structure OfS (w0 W : World) (gc M : Nat) (f : Nat → Nat) (bw who : Nat) : Prop where
  old : Below w0.heap.size w0 W
  new : w0.heap.size ≤ gc
  lt : gc < bw
  cat : CAt W gc M f
  box : Boxed W bw 36 (.int .u64 (who : Int))
section
variable {w0 W W' : World} {gc M bw who tb T : Nat} {f : Nat → Nat}
theorem OfS.over (h : OfS w0 W gc M f bw who) (hb : Below W.heap.size W W') : OfS w0 W' gc M f bw who :=
  ⟨h.old.trans (hb.mono h.old.size), h.new, h.lt, h.cat.below hb, (hb.block bw h.box.lt).trans h.box⟩
theorem OfS.setW (h : OfS w0 W gc M f bw who) (s v : Nat) : OfS w0 (W.setCell ⟨gc, 1 + s, none⟩ (.int .u64 (v : Int))) gc M (upd f s v) bw who :=
  ⟨h.old.setCell (p := ⟨gc, 1 + s, none⟩) h.new _, h.new, h.lt, h.cat.setW s v, box_other h.box (Nat.ne_of_gt h.lt) _⟩
theorem OfS.setT (h : OfS w0 W gc M f bw who) (ht : bw < tb) (v : Value) : OfS w0 (W.setCell ⟨tb, 0, none⟩ v) gc M f bw who :=
  ⟨h.old.setCell (p := ⟨tb, 0, none⟩) (by show w0.heap.size ≤ tb; have := h.new; have := h.lt; omega) _, h.new, h.lt, h.cat.of (Below.heap_setCell W ⟨tb, 0, none⟩ v gc (by have := h.lt; show gc ≠ tb; omega)), box_other h.box (by omega) _⟩
theorem OfS.ext (h : OfS w0 W gc M f bw who) {f' : Nat → Nat} (e : ∀ s, f s = f' s) : OfS w0 W gc M f' bw who := by
  have : f = f' := funext e
  subst this; exact h
end
/-- How many takers are left in a box. -/
def boxN (W : World) : Value → Nat
  | .pointer (some a) => match W.cell? a with
    | some (.int _ x) => (nums x.toNat).length
    | _ => 0
  | _ => 0
theorem boxN_at {W : World} {tb T : Nat} (h : W.cell? ⟨tb, 0, none⟩ = some (.int .u64 (T : Int))) : boxN W (.pointer (some ⟨tb, 0, none⟩)) = (nums T).length := by
  simp [boxN, h]
/-- Before and behind the offer. -/
def wA (R : Nat → Nat) (M u t : Nat) : Nat := min (wy u (rowsS R t)) M
theorem wA_zero (R : Nat → Nat) (M u : Nat) : wA R M (u + 1) 0 = wA R M u 0 := by
  unfold wA; rw [wy_step]; simp [nums_zero, remS, sumN]
theorem nums_and (a b : Nat) : nums (a &&& b) = (nums b).filter fun j => a.testBit j.val := by
  unfold nums
  rw [List.filter_filter]
  exact List.filter_congr fun k _ => by rw [Nat.testBit_and]
/-- The takers of a set, and what they bring. -/
structure TkS (R : Nat → Nat) (M u k T v : Nat) : Prop where
  word : T < 18446744073709551616
  sub : ∀ j ∈ nums T, k.testBit j.val = true
  le : v ≤ M
  sum : min (v + remS R u k (nums T)) M = wA R M (u + 1) k
theorem TkS.start {R : Nat → Nat} {M u k n : Nat} (hk : k < 2 ^ n) (hn : n ≤ 12) : TkS R M u k (askN R u n &&& k) (wA R M u k) := by
  have hl : k < 18446744073709551616 := Nat.lt_of_lt_of_le hk (show 2 ^ n ≤ 2 ^ 64 from Nat.pow_le_pow_right (by decide) (by omega))
  refine ⟨Nat.lt_of_le_of_lt Nat.and_le_right hl, fun j hj => ?_, Nat.min_le_right _ _, ?_⟩
  · rw [nums_and] at hj
    exact (mem_nums k j).1 (List.mem_filter.1 hj).1
  · have e : nums (askN R u n &&& k) = (nums k).filter fun j => (R j.val).testBit u := by
      rw [nums_and]
      refine List.filter_congr fun j hj => ?_
      rw [askN_bit]
      have hjn : j.val < n := by
        rcases Nat.lt_or_ge j.val n with h | h
        · exact h
        · have := (mem_nums k j).1 hj
          rw [Nat.testBit_lt_two_pow (Nat.lt_of_lt_of_le hk (Nat.pow_le_pow_right (by decide) h))] at this
          cases this
      rw [decide_eq_true hjn, Bool.true_and]
    unfold wA
    rw [e, wy_step]
    omega
theorem TkS.step {R : Nat → Nat} {M u k T v : Nat} (h : TkS R M u k T v) {j : Fin 64} {l : List (Fin 64)} (hj : nums T = j :: l) : TkS R M u k (clS T j.val) (min (v + wA R M u (clS k j.val)) M) ∧ nums (clS T j.val) = l := by
  have e : nums (clS T j.val) = l := by
    rw [nums_without T (clS T j.val) j fun i => clS_bit T j i, hj, List.filter_cons, if_neg (by simp)]
    refine List.filter_eq_self.2 fun y hy => ?_
    have hd := nodup_nums T
    rw [hj] at hd
    simp only [Bool.not_eq_true', decide_eq_false_iff_not]
    exact fun e => (List.nodup_cons.1 hd).1 (e ▸ hy)
  refine ⟨⟨Nat.lt_of_le_of_lt Nat.and_le_left h.word, fun i hi => ?_, Nat.min_le_right _ _, ?_⟩, e⟩
  · rw [e] at hi; exact h.sub i (by rw [hj]; exact List.mem_cons_of_mem _ hi)
  · have hs := h.sum
    rw [hj] at hs
    unfold remS at hs ⊢
    rw [sumN] at hs
    rw [e]
    unfold wA at hs ⊢
    rw [← hs]
    omega
theorem TkS.done {R : Nat → Nat} {M u k T v : Nat} (h : TkS R M u k T v) (hT : nums T = []) : v = wA R M (u + 1) k := by
  have hs := h.sum
  rw [hT] at hs
  rw [← hs]
  unfold remS
  rw [sumN]
  have := h.le
  omega
end Go.Proofs.YtbbmjfjedonfaaaDoor.M
