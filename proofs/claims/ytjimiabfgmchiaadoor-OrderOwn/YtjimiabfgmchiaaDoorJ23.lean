/- The document's Before, Preds, Succs, Ready, Down. -/
import Derived.Test.YtjimiabfgmchiaaDoorOPairs
import Derived.Test.YtjimiabfgmchiaaDoorOLawM
import Derived.OwnWalk
import Derived.Lib.OwnKind
import Derived.Deep.AppendLies
namespace Go.Proofs.YtjimiabfgmchiaaDoor
open Go.RowKit Go.Shelf
/-- The cells of the outer row. -/
def outs (m c : Nat) (gr : Nat → Nat) : List Value := (List.range c).map fun i => Value.slice (some ⟨gr i, 0, none⟩) m m
/-- The cells of n bools. -/
def bools (n : Nat) (f : Nat → Bool) : List Value := (List.range n).map fun j => Value.bool (f j)
theorem outs_at {m c : Nat} (gr : Nat → Nat) {i : Nat} (h : i < c) : (outs m c gr)[i]? = some (.slice (some ⟨gr i, 0, none⟩) m m) := by simp [outs, h]
theorem bools_len (n : Nat) (f : Nat → Bool) : (bools n f).length = n := by simp [bools]
theorem bools_at {n : Nat} (f : Nat → Bool) {i : Nat} (h : i < n) : (bools n f)[i]? = some (.bool (f i)) := by simp [bools, h]
theorem bools_congr {n : Nat} {f g : Nat → Bool} (h : ∀ i, i < n → f i = g i) : bools n f = bools n g := by
  unfold bools
  exact List.map_congr_left fun i hi => by rw [h i (List.mem_range.1 hi)]
theorem bools_set {n b : Nat} {f g : Nat → Bool} (hb : g b = true) (h : ∀ i, i < n → i ≠ b → f i = g i) : (bools n f).set b (.bool true) = bools n g := by
  apply List.ext_getElem?
  intro i
  rw [List.getElem?_set, bools_len]
  by_cases e : b = i
  · subst e
    rw [if_pos rfl]
    by_cases hl : b < n
    · rw [if_pos hl, bools_at g hl, hb]
    · rw [if_neg hl, List.getElem?_eq_none (by rw [bools_len]; omega)]
  · rw [if_neg e]
    by_cases hl : i < n
    · rw [bools_at f hl, bools_at g hl, h i hl (Ne.symm e)]
    · rw [List.getElem?_eq_none (by rw [bools_len]; omega), List.getElem?_eq_none (by rw [bools_len]; omega)]
/-- c rows of m bools. -/
structure Mat (w : World) (go m c : Nat) (M : Nat → Nat → Bool) (ov : Value) (gr : Nat → Nat) (W : World) : Prop where
  ob : W.heap[go]? = some (.cells #[.int .i64 (m : Int), ov] 53 (0, 0))
  outer : W.ownsRow w.heap.size 59 1 ov c (outs m c gr)
  inner : ∀ i, i < c → W.ownsRow w.heap.size 4 1 (.slice (some ⟨gr i, 0, none⟩) m m) m (bools m (M i))
  dist : ∀ i j, i < c → j < c → gr i = gr j → i = j
  ge : w.heap.size ≤ go
  bl : Below w.heap.size w W
theorem grown_set (W : World) (b i : Nat) (v : Value) : W.grownBy (W.setCell ⟨b, i, none⟩ v) (some b) := ⟨rfl, rfl, rfl, by simp, fun k _ hk => heap_setCell_other W ⟨b, i, none⟩ k v (fun e => hk (by simp [e]))⟩
section
variable {w : World} {go m c : Nat} {M M' : Nat → Nat → Bool} {ov : Value} {gr : Nat → Nat} {W W' : World}
theorem Mat.lt (h : Mat w go m c M ov gr W) : go < W.heap.size := (Array.getElem?_eq_some_iff.1 h.ob).1
theorem Mat.c0 (h : Mat w go m c M ov gr W) : W.cell? ⟨go, 0, none⟩ = some (.int .i64 (m : Int)) := by simp [World.cell?, h.ob]
theorem Mat.c1 (h : Mat w go m c M ov gr W) : W.cell? ⟨go, 1, none⟩ = some ov := by simp [World.cell?, h.ob]
theorem Mat.f1 (h : Mat w go m c M ov gr W) : W.frozen? ⟨go, 1, none⟩ = false := by simp [World.frozen?, h.ob]
theorem Mat.shape (h : Mat w go m c M ov gr W) (hc : 0 < c) : ∃ gt cap, ov = .slice (some ⟨gt, 0, none⟩) c cap := by
  rcases h.outer.2 with ⟨_, h0⟩ | ⟨g, cap, _, h', _⟩
  · omega
  · exact ⟨g, cap, h'⟩
theorem Mat.row (h : Mat w go m c M ov gr W) {gt cap i : Nat} (hv : ov = .slice (some ⟨gt, 0, none⟩) c cap) (hi : i < c) : W.cell? ⟨gt, i, none⟩ = some (.slice (some ⟨gr i, 0, none⟩) m m) := by
  have := h.outer
  rw [hv] at this
  rw [this.cellAt i (by omega)]; exact outs_at gr hi
theorem Mat.at (h : Mat w go m c M ov gr W) {i j : Nat} (hi : i < c) (hj : j < m) : W.cell? ⟨gr i, j, none⟩ = some (.bool (M i j)) := by
  rw [(h.inner i hi).cellAt j (by omega)]; exact bools_at (M i) hj
theorem Mat.frz (h : Mat w go m c M ov gr W) {i : Nat} (hi : i < c) (j : Nat) : W.frozen? ⟨gr i, j, none⟩ = false := (h.inner i hi).frozenAt j
theorem Mat.over (h : Mat w go m c M ov gr W) (hb : Below W.heap.size W W') : Mat w go m c M ov gr W' :=
  ⟨(hb.block go h.lt).trans h.ob, h.outer.kept (grown_below (none) hb) (by cases ov.ownBlock <;> simp), fun i hi => (h.inner i hi).kept (grown_below (none) hb) (.inr (by simp [Value.ownBlock])), h.dist, h.ge, h.bl.trans (hb.mono h.bl.size)⟩
theorem Mat.congr (h : Mat w go m c M ov gr W) (e : ∀ i j, i < c → j < m → M i j = M' i j) : Mat w go m c M' ov gr W :=
  ⟨h.ob, h.outer, fun i hi => by rw [← bools_congr fun j hj => e i j hi hj]; exact h.inner i hi, h.dist, h.ge, h.bl⟩
theorem own_blk {w : World} {B : Nat} {e : TypeId} {size : Nat} {v : Value} {n : Nat} {xs : List Value} (h : w.ownsRow B e size v n xs) {g : Nat} (hg : v.ownBlock = some g) : B ≤ g ∧ ∃ cur, w.heap[g]? = some (.cells cur e (0, 0)) := by
  rcases h.2 with ⟨rfl, _⟩ | ⟨g', cap, cur, rfl, hb, hh, _⟩
  · cases hg
  · cases hg; exact ⟨hb, cur, hh⟩
theorem Mat.set (h : Mat w go m c M ov gr W) {a b : Nat} (ha : a < c) (hM : M' a b = true) (e : ∀ i j, i < c → j < m → ¬ (i = a ∧ j = b) → M i j = M' i j) : Mat w go m c M' ov gr (W.setCell ⟨gr a, b, none⟩ (.bool true)) := by
  obtain ⟨h1, h2⟩ := (h.inner a ha).stored b (.bool true)
  obtain ⟨hge, cur, hcur⟩ := own_blk (h.inner a ha) rfl
  have hgo : go ≠ gr a := fun e => by rw [← e, h.ob] at hcur; simp at hcur
  have hov : ov.ownBlock ≠ some (gr a) := fun e => by
    obtain ⟨_, cur', hc'⟩ := own_blk h.outer e
    rw [hcur] at hc'; simp at hc'
  refine ⟨(h2.block go h.lt (by simpa using hgo)).trans h.ob, h.outer.kept h2 (.inr hov), fun i hi => ?_, h.dist, h.ge, h.bl.setCell (p := ⟨gr a, b, none⟩) hge _⟩
  by_cases ei : i = a
  · subst ei
    rw [bools_set (g := M' i) hM (fun j hj hne => e i j hi hj (fun h => hne h.2))] at h1
    exact h1
  · rw [← bools_congr fun j hj => e i j hi hj (fun h => ei h.1)]
    exact (h.inner i hi).kept h2 (.inr (fun e' => ei (h.dist i a hi ha (by simpa [Value.ownBlock] using e'))))
/-- One row more. -/
theorem Mat.push (h : Mat w go m c (fun _ _ => false) ov gr W) {g2 gt cap : Nat} {W1 W2 : World} (hb1 : Below W.heap.size W W1)
    (hrow : W1.ownsRow w.heap.size 4 1 (.slice (some ⟨g2, 0, none⟩) m m) m (bools m fun _ => false)) (hg2 : W.heap.size ≤ g2)
    (hown : W2.ownsRow w.heap.size 59 1 (.slice (some ⟨gt, 0, none⟩) (c + 1) cap) (c + 1) (outs m c gr ++ [.slice (some ⟨g2, 0, none⟩) m m])) (hgrow : W1.grownBy W2 ov.ownBlock) :
    Mat w go m (c + 1) (fun _ _ => false) (.slice (some ⟨gt, 0, none⟩) (c + 1) cap) (fun i => if i = c then g2 else gr i) (W2.setCell ⟨go, 1, none⟩ (.slice (some ⟨gt, 0, none⟩) (c + 1) cap)) := by
  have h1 := h.over hb1
  have hlt1 := h1.lt
  have hne : ov.ownBlock ≠ some go := fun e => by
    obtain ⟨_, cur', hc'⟩ := own_blk h1.outer e
    rw [h1.ob] at hc'; simp at hc'
  have hob2 : W2.heap[go]? = some (.cells #[.int .i64 (m : Int), ov] 53 (0, 0)) := (hgrow.block go hlt1 (fun e => hne e.symm)).trans h1.ob
  obtain ⟨_, curg, hcg⟩ := own_blk hown rfl
  have hgt : gt ≠ go := fun e => by rw [e, hob2] at hcg; simp at hcg
  have hg2lt : g2 < W1.heap.size := by
    obtain ⟨_, cur, hc⟩ := own_blk hrow rfl
    exact (Array.getElem?_eq_some_iff.1 hc).1
  have hbl : ∀ g, ov.ownBlock = some g → w.heap.size ≤ g := fun g e => (own_blk h1.outer e).1
  have hsc : W2.grownBy (W2.setCell ⟨go, 1, none⟩ (.slice (some ⟨gt, 0, none⟩) (c + 1) cap)) (some go) := grown_set W2 go 1 _
  have keepR : ∀ {g : Nat} {xs : List Value}, W1.ownsRow w.heap.size 4 1 (.slice (some ⟨g, 0, none⟩) m m) m xs → (W2.setCell ⟨go, 1, none⟩ (.slice (some ⟨gt, 0, none⟩) (c + 1) cap)).ownsRow w.heap.size 4 1 (.slice (some ⟨g, 0, none⟩) m m) m xs := fun {g xs} hr => by
    obtain ⟨_, cur, hc⟩ := own_blk hr rfl
    have n1 : (Value.slice (some ⟨g, 0, none⟩) m m).ownBlock ≠ ov.ownBlock := fun e => by
      obtain ⟨_, cur', hc'⟩ := own_blk h1.outer (e.symm.trans rfl)
      rw [hc] at hc'; simp at hc'
    have n2 : (Value.slice (some ⟨g, 0, none⟩) m m).ownBlock ≠ some go := fun e => by
      have : g = go := by simpa [Value.ownBlock] using e
      rw [this, h1.ob] at hc; simp at hc
    exact (hr.kept hgrow (.inr n1)).kept hsc (.inr n2)
  refine ⟨?_, ?_, ?_, ?_, h.ge, ?_⟩
  · have := heap_setCell_same W2 go 1 _ 53 (.slice (some ⟨gt, 0, none⟩) (c + 1) cap) hob2
    rw [this]; rfl
  · have := hown.kept hsc (.inr (by simpa [Value.ownBlock] using hgt))
    have e : outs m (c + 1) (fun i => if i = c then g2 else gr i) = outs m c gr ++ [.slice (some ⟨g2, 0, none⟩) m m] := by
      unfold outs
      rw [List.range_succ, List.map_append]
      congr 1
      · exact List.map_congr_left fun i hi => by
          have := List.mem_range.1 hi
          dsimp only
          rw [if_neg (by omega)]
      · simp
    rw [e]; exact this
  · intro i hi
    by_cases e : i = c
    · rw [if_pos e]; exact keepR hrow
    · rw [if_neg e]; exact keepR (h1.inner i (by omega))
  · intro i j hi hj e
    by_cases ei : i = c
    · by_cases ej : j = c
      · omega
      · rw [if_pos ei, if_neg ej] at e
        obtain ⟨_, cur, hc⟩ := own_blk (g := gr j) (h.inner j (by omega)) rfl
        have : gr j < W.heap.size := (Array.getElem?_eq_some_iff.1 hc).1
        omega
    · by_cases ej : j = c
      · rw [if_neg ei, if_pos ej] at e
        obtain ⟨_, cur, hc⟩ := own_blk (g := gr i) (h.inner i (by omega)) rfl
        have : gr i < W.heap.size := (Array.getElem?_eq_some_iff.1 hc).1
        omega
      · rw [if_neg ei, if_neg ej] at e
        exact h.dist i j (by omega) (by omega) e
  · exact (h1.bl.grown hgrow h1.bl.size hbl).setCell (p := ⟨go, 1, none⟩) h.ge _
end
theorem al2 (W : World) (o0 o1 : Obj) : ((W.alloc o0).alloc o1).drew.heap[W.heap.size + 1]? = some o1 := by
  show ((W.heap.push o0).push o1)[W.heap.size + 1]? = some o1
  rw [Array.getElem?_push, if_pos (by simp)]
theorem far_cell {V : World} {g i b j : Nat} {v u : Value} (h : V.cell? ⟨b, j, none⟩ = some u) (hne : b ≠ g) : (V.setCell ⟨g, i, none⟩ v).cell? ⟨b, j, none⟩ = some u := by
  rw [World.cell?_setCell_other _ _ _ _ (by intro e; injection e with e1; exact hne e1.symm)]; exact h
theorem Mat.far {w : World} {go m c : Nat} {M : Nat → Nat → Bool} {gr : Nat → Nat} {W : World} {gt cap : Nat} (h : Mat w go m c M (.slice (some ⟨gt, 0, none⟩) c cap) gr W) {a : Nat} (ha : a < c) : go ≠ gr a ∧ gt ≠ gr a ∧ w.heap.size ≤ gr a := by
  obtain ⟨hge, cur, hcur⟩ := own_blk (h.inner a ha) rfl
  refine ⟨fun e => ?_, fun e => ?_, hge⟩
  · rw [← e, h.ob] at hcur; simp at hcur
  · obtain ⟨_, cur', hc'⟩ := own_blk (g := gt) h.outer rfl
    rw [e, hcur] at hc'; simp at hc'
/-- A turn under way. -/
def tmid (k a b : Nat) (R : Nat → Nat → Bool) (i j : Nat) : Bool := if i < a ∨ (i = a ∧ j < b) then turn k R i j else R i j
theorem tmid_col (k a b : Nat) (R : Nat → Nat → Bool) (i : Nat) : tmid k a b R i k = R i k := by
  unfold tmid; split
  · exact turn_col k R i
  · rfl
theorem tmid_row (k a b : Nat) (R : Nat → Nat → Bool) (j : Nat) : tmid k a b R k j = R k j := by
  unfold tmid; split
  · exact turn_row k R j
  · rfl
theorem tmid_other {k a b : Nat} {R : Nat → Nat → Bool} {i j : Nat} (h : ¬ (i = a ∧ j = b)) : tmid k a b R i j = tmid k a (b + 1) R i j := by
  unfold tmid
  by_cases h1 : i < a ∨ (i = a ∧ j < b)
  · rw [if_pos h1, if_pos (by omega)]
  · rw [if_neg h1, if_neg (by omega)]
theorem tmid_here (k a b : Nat) (R : Nat → Nat → Bool) : tmid k a (b + 1) R a b = (R a b || (R a k && R k b)) := by
  unfold tmid; rw [if_pos (by omega)]; rfl
theorem tmid_now (k a b : Nat) (R : Nat → Nat → Bool) : tmid k a b R a b = R a b := by
  unfold tmid; rw [if_neg (by omega)]
theorem tmid_rowend {k a n : Nat} {R : Nat → Nat → Bool} {i j : Nat} (hj : j < n) : tmid k a n R i j = tmid k (a + 1) 0 R i j := by
  unfold tmid
  by_cases h1 : i < a ∨ (i = a ∧ j < n)
  · rw [if_pos h1, if_pos (by omega)]
  · rw [if_neg h1, if_neg (by omega)]
theorem tmid_end {k n : Nat} {R : Nat → Nat → Bool} {i j : Nat} (hi : i < n) : tmid k n 0 R i j = turn k R i j := by
  unfold tmid; rw [if_pos (by omega)]
theorem tmid_start {k : Nat} {R : Nat → Nat → Bool} {i j : Nat} : tmid k 0 0 R i j = R i j := by
  unfold tmid; rw [if_neg (by omega)]
/-- What the first c pairs say. -/
def relT (L : List (Int × Int)) (c i j : Nat) : Bool := decide (((i : Int), (j : Int)) ∈ L.take c)
theorem relT_all (L : List (Int × Int)) (i j : Nat) : relT L L.length i j = relL L i j := by unfold relT relL; rw [List.take_length]
theorem relT_snoc {L : List (Int × Int)} {c a b : Nat} (h : L[c]? = some ((a : Int), (b : Int))) (i j : Nat) : relT L (c + 1) i j = (relT L c i j || decide (i = a ∧ j = b)) := by
  unfold relT
  rw [take_snocP h, Bool.eq_iff_iff]
  simp only [List.mem_append, List.mem_singleton, Bool.or_eq_true, decide_eq_true_eq, Prod.mk.injEq]
  have : ((i : Int) = (a : Int) ∧ (j : Int) = (b : Int)) ↔ (i = a ∧ j = b) := by omega
  rw [this]
end Go.Proofs.YtjimiabfgmchiaaDoor
namespace Go.Proofs.YtjimiabfgmchiaaDoor
open Go.RowKit Go.Shelf
/-- Does a come ahead of b, whatever numbers they are? -/
def befI (R : Nat → Nat → Bool) (a b : Int) : Bool := decide (0 ≤ a ∧ 0 ≤ b) && R a.toNat b.toNat
/-- The places of a test, as a word. -/
def accB (f : Nat → Bool) (k : Nat) : Nat := (List.range k).foldl (fun acc a => if f a = true then acc ||| 2 ^ a else acc) 0
theorem accB_snoc (f : Nat → Bool) (k : Nat) : accB f (k + 1) = if f k = true then accB f k ||| 2 ^ k else accB f k := by
  unfold accB; rw [List.range_succ, List.foldl_append]; rfl
theorem accB_bits (f : Nat → Bool) (a : Nat) : ∀ k, (accB f k).testBit a = (decide (a < k) && f a)
  | 0 => by simp [accB]
  | k + 1 => by
    rw [accB_snoc]
    have ih := accB_bits f a k
    by_cases e : a = k
    · subst e
      have h0 : decide (a < a) = false := by simp
      rw [h0, Bool.false_and] at ih
      cases h : f a with
      | true => rw [if_pos rfl, Nat.testBit_or, ih, Nat.testBit_two_pow]; simp
      | false => rw [if_neg (by simp), ih]; simp
    · have hd : decide (a < k + 1) = decide (a < k) := by
        by_cases h : a < k
        · simp [h]; omega
        · simp [h]; omega
      have hp : (2 ^ k).testBit a = false := by rw [Nat.testBit_two_pow]; simp; omega
      cases h : f k with
      | true => rw [if_pos rfl, Nat.testBit_or, ih, hp, hd]; simp
      | false => rw [if_neg (by simp), ih, hd]
theorem accB_lt (f : Nat → Bool) {k : Nat} (hk : k ≤ 64) : accB f k < 18446744073709551616 :=
  small64 hk fun i hi => by
    rw [accB_bits] at hi
    simp only [Bool.and_eq_true, decide_eq_true_eq] at hi
    exact hi.1
theorem bit_test' {r a : Nat} (hr : r < 18446744073709551616) : (bits .and .u64 ((r : Int) / 2 ^ a) 1 == 0) = !r.testBit a := by
  have e : ((r : Int) / 2 ^ a) = ((r / 2 ^ a : Nat) : Int) := by simp
  have hlt : r / 2 ^ a < 18446744073709551616 := Nat.lt_of_le_of_lt (Nat.div_le_self _ _) hr
  rw [e, show (1 : Int) = ((1 : Nat) : Int) from rfl, u64_and_nat _ 1 hlt (by decide), eq_cast, Nat.testBit_eq_decide_div_mod_eq, Nat.and_one_is_mod]
  rcases Nat.mod_two_eq_zero_or_one (r / 2 ^ a) with h | h <;> rw [h] <;> rfl
theorem bit_test1 {r a : Nat} (hr : r < 18446744073709551616) : (bits .and .u64 ((r : Int) / 2 ^ a) 1 == 1) = r.testBit a := by
  have e : ((r : Int) / 2 ^ a) = ((r / 2 ^ a : Nat) : Int) := by simp
  have hlt : r / 2 ^ a < 18446744073709551616 := Nat.lt_of_le_of_lt (Nat.div_le_self _ _) hr
  rw [e, show (1 : Int) = ((1 : Nat) : Int) from rfl, u64_and_nat _ 1 hlt (by decide), Nat.testBit_eq_decide_div_mod_eq, Nat.and_one_is_mod]
  rcases Nat.mod_two_eq_zero_or_one (r / 2 ^ a) with h | h <;> rw [h] <;> rfl
section
variable {w w0 : World} {go m : Nat} {R : Nat → Nat → Bool} {ov : Value} {gr : Nat → Nat} {Pf Sf : Nat → Nat}
/-- What is ready, by a test. -/
def rdT (Pf : Nat → Nat) (d a : Nat) : Bool := !d.testBit a && (Pf a &&& (18446744073709551615 - d) == 0)
/-- Down, place by place. -/
def dnT (m : Nat) (Pf : Nat → Nat) (d a : Nat) : Bool := d.testBit a && (decide (m ≤ a) || !(Pf a &&& (18446744073709551615 - d) == 0))
def dnAll (f : Nat → Bool) : Bool := (List.range 64).all fun a => !f a
theorem dnAll_iff (f : Nat → Bool) : dnAll f = true ↔ ∀ a, a < 64 → f a = false := by
  unfold dnAll
  rw [List.all_eq_true]
  constructor
  · intro h a ha
    have := h a (List.mem_range.2 ha)
    simpa using this
  · intro h a ha
    rw [h a (List.mem_range.1 ha)]; rfl
end
end Go.Proofs.YtjimiabfgmchiaaDoor
