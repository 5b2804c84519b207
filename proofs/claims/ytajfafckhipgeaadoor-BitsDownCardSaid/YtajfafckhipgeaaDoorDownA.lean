/- Down: the iterator tells the numbers of the set, falling, until a round says no more. -/
import Derived.Test.YtajfafckhipgeaaDoorNest
import Derived.Test.YtajfafckhipgeaaDoorMirror
namespace Go.Proofs.YtajfafckhipgeaaDoor
open Go.RowKit Go.Shelf
attribute [local go_sem] Oper.semAt_some
/-- Falling rows with the same numbers are one. -/
theorem falling_eq : ∀ (l m : List Int), l.Pairwise (· > ·) → m.Pairwise (· > ·) → (∀ z, z ∈ l ↔ z ∈ m) → l = m
  | [], [], _, _, _ => rfl
  | [], b :: m, _, _, h => absurd ((h b).2 (by simp)) (by simp)
  | a :: l, [], _, _, h => absurd ((h a).1 (by simp)) (by simp)
  | a :: l, b :: m, hl, hm, h => by
    rw [List.pairwise_cons] at hl hm
    have e : a = b := by
      rcases List.mem_cons.1 ((h a).1 (by simp)) with h1 | h1
      · exact h1
      rcases List.mem_cons.1 ((h b).2 (by simp)) with h2 | h2
      · exact h2.symm
      have := hm.1 a h1
      have := hl.1 b h2
      omega
    subst e
    rw [falling_eq l m hl.2 hm.2 fun z => ?_]
    constructor
    · intro hz
      rcases List.mem_cons.1 ((h z).1 (by simp [hz])) with h1 | h1
      · subst h1; have := hl.1 _ hz; omega
      · exact h1
    · intro hz
      rcases List.mem_cons.1 ((h z).2 (by simp [hz])) with h1 | h1
      · subst h1; have := hm.1 _ hz; omega
      · exact h1
/-- The numbers of a set, falling. -/
def downs (x : Nat) : List Int := (nums x).reverse.map fun k => (k.val : Int)
theorem downs_mirror (x : Nat) (hx : x < 4294967296) : (nums (rev x / 4294967296)).map (fun k => 31 - (k.val : Int)) = downs x := by
  have hb : ∀ j, j < 32 → (rev x / 4294967296).testBit j = x.testBit (31 - j) := fun j hj => by
    rw [show (4294967296 : Nat) = 2 ^ 32 from rfl, Nat.testBit_div_two_pow, (rev_bit x (j + 32) (by omega) (by omega)).1]
    congr 1; omega
  have hr := (rev_bit x 0 (by omega) (by decide)).2
  have h32 : ∀ y j, y < 4294967296 → y.testBit j = true → j < 32 := fun y j hy h => by
    rcases Nat.lt_or_ge j 32 with h1 | h1
    · exact h1
    · rw [Nat.testBit_lt_two_pow (Nat.lt_of_lt_of_le (show y < 2 ^ 32 from hy) (Nat.pow_le_pow_right (by decide) h1))] at h; cases h
  refine falling_eq _ _ ?_ ?_ fun z => ?_
  · rw [List.pairwise_map]
    exact (sorted_nums _).imp fun {a b} h => by have : a.val < b.val := h; omega
  · unfold downs
    rw [List.pairwise_map, List.pairwise_reverse]
    exact (sorted_nums _).imp fun {a b} h => by have : a.val < b.val := h; omega
  · unfold downs
    simp only [List.mem_map, List.mem_reverse, mem_nums]
    constructor
    · rintro ⟨k, hk, rfl⟩
      have hk3 := h32 _ _ (by omega) hk
      rw [hb _ hk3] at hk
      exact ⟨⟨31 - k.val, by omega⟩, hk, by show ((31 - k.val : Nat) : Int) = _; omega⟩
    · rintro ⟨k, hk, rfl⟩
      have hk3 := h32 _ _ hx hk
      refine ⟨⟨31 - k.val, by omega⟩, ?_, by show 31 - ((31 - k.val : Nat) : Int) = _; omega⟩
      show (rev x / 4294967296).testBit (31 - k.val) = true
      rw [hb _ (by omega), show 31 - (31 - k.val) = k.val by omega]; exact hk
set_option maxHeartbeats 1000000 in
theorem down32 (x : Int) (w : World) :
    Calls Tryd.prog 30 #[.agg #[.int .u32 x]] w fun e w' => e = .returned (.func (.func 46) #[] #[.pointer (some ⟨w.heap.size, 0, none⟩)]) ∧ w' = w.alloc (.cells #[.int .u32 x] 46) := by
  go_enter Tryd.func30, Tryd.ntmps30
  go_wp2
  go_ret
  exact ⟨rfl, rfl⟩
/-- What stands between two rounds of the mirror's numbers. -/
def Gd (l Bn x yb B : Nat) (V : World) : Prop := B ≤ V.heap.size ∧ V.cell? ⟨Bn, 0, none⟩ = some (.int .u32 x) ∧ Tab V ∧ Boxed V yb 28 (.func (.yield l) #[] #[])
theorem Gd.below {l Bn x yb B n : Nat} {V V' : World} (h : Gd l Bn x yb B V) (hb : Below n V V') (h1 : Bn < n) (h2 : yb < n) (h3 : 3 ≤ n) : Gd l Bn x yb B V' :=
  ⟨Nat.le_trans h.1 hb.size, (hb.cell (p := ⟨Bn, 0, none⟩) h1).trans h.2.1, h.2.2.1.below h3 hb, (hb.block _ h2).trans h.2.2.2⟩
theorem Gd.own {l Bn x yb B : Nat} (h1 : Bn < B) (h2 : yb < B) (h3 : 3 ≤ B) : OwnFrom (β := Unit) B (fun _ V => Gd l Bn x yb B V) := fun _ Y _ _ h hg hr =>
  h.below (n := B) ((Below.refl _ Y).grown hg h.1 fun k e => (hr k e).1) h1 h2 h3
theorem Gd.round {l Bn x yb B b0 : Nat} {V V' : World} (h : Gd l Bn x yb B V) (hk : KpB Bn V V') (hq : Kept b0 V V') (h1 : b0 ≤ yb) : Gd l Bn x yb B V' :=
  ⟨Nat.le_trans h.1 hq.1, hk.1.trans h.2.1, hk.2 h.2.2.1, (hq.2 _ h1 h.2.2.2.lt).trans h.2.2.2⟩
theorem KpB.of_kept {Bn b0 m : Nat} {V V' : World} (hk : KpB Bn V V') (hq : Kept b0 V V') (h1 : b0 ≤ m) (h2 : m < V.heap.size) : KpB m V V' :=
  ⟨World.cell?_of_block (hq.2 m h1 h2), hk.2⟩
theorem wrap31 : ∀ k : Fin 64, IntKind.i64.wrap (31 - (k.val : Int)) = 31 - (k.val : Int) := by decide +kernel
def flipI (k : Fin 64) : Int := 31 - (k.val : Int)
end Go.Proofs.YtajfafckhipgeaaDoor
