/- What is ahead of a place, by the document's order and by the words. -/
import Derived.Test.YtahfobbiaimoiaaGreatDoorJ06
import Derived.OwnWalk
import Derived.Lib.OwnKind
import Derived.Deep.AppendLies
namespace Go.Proofs.YtahfobbiaimoiaaGreatDoor.O
open Go.RowKit Go.Shelf
/-- The cells of the outer row. -/
def outs (m c : Nat) (gr : Nat → Nat) : List Value := (List.range c).map fun i => Value.slice (some ⟨gr i, 0, none⟩) m m
/-- The cells of n bools. -/
def bools (n : Nat) (f : Nat → Bool) : List Value := (List.range n).map fun j => Value.bool (f j)
theorem outs_at {m c : Nat} (gr : Nat → Nat) {i : Nat} (h : i < c) : (outs m c gr)[i]? = some (.slice (some ⟨gr i, 0, none⟩) m m) := by simp [outs, h]
theorem bools_len (n : Nat) (f : Nat → Bool) : (bools n f).length = n := by simp [bools]
theorem bools_at {n : Nat} (f : Nat → Bool) {i : Nat} (h : i < n) : (bools n f)[i]? = some (.bool (f i)) := by simp [bools, h]
theorem bools_congr {n : Nat} {f g : Nat → Bool} (h : ∀ i, i < n → f i = g i) : bools n f = bools n g := by
  unfold bools
  exact List.map_congr_left fun i hi => by rw [h i (List.mem_range.1 hi)]
theorem bools_set {n b : Nat} {f g : Nat → Bool} (hb : g b = true) (h : ∀ i, i < n → i ≠ b → f i = g i) : (bools n f).set b (.bool true) = bools n g := by
  apply List.ext_getElem?
  intro i
  rw [List.getElem?_set, bools_len]
  by_cases e : b = i
  · subst e
    rw [if_pos rfl]
    by_cases hl : b < n
    · rw [if_pos hl, bools_at g hl, hb]
    · rw [if_neg hl, List.getElem?_eq_none (by rw [bools_len]; omega)]
  · rw [if_neg e]
    by_cases hl : i < n
    · rw [bools_at f hl, bools_at g hl, h i hl (Ne.symm e)]
    · rw [List.getElem?_eq_none (by rw [bools_len]; omega), List.getElem?_eq_none (by rw [bools_len]; omega)]
/-- c rows of m bools. -/
structure Mat (w : World) (go m c : Nat) (M : Nat → Nat → Bool) (ov : Value) (gr : Nat → Nat) (W : World) : Prop where
  ob : W.heap[go]? = some (.cells #[.int .i64 (m : Int), ov] 165 (0, 0))
  outer : W.ownsRow w.heap.size 166 1 ov c (outs m c gr)
  inner : ∀ i, i < c → W.ownsRow w.heap.size 4 1 (.slice (some ⟨gr i, 0, none⟩) m m) m (bools m (M i))
  dist : ∀ i j, i < c → j < c → gr i = gr j → i = j
  ge : w.heap.size ≤ go
  bl : Below w.heap.size w W
theorem grown_set (W : World) (b i : Nat) (v : Value) : W.grownBy (W.setCell ⟨b, i, none⟩ v) (some b) := ⟨rfl, rfl, rfl, by simp, fun k _ hk => heap_setCell_other W ⟨b, i, none⟩ k v (fun e => hk (by simp [e]))⟩
section
variable {w : World} {go m c : Nat} {M M' : Nat → Nat → Bool} {ov : Value} {gr : Nat → Nat} {W W' : World}
theorem Mat.lt (h : Mat w go m c M ov gr W) : go < W.heap.size := (Array.getElem?_eq_some_iff.1 h.ob).1
theorem Mat.c0 (h : Mat w go m c M ov gr W) : W.cell? ⟨go, 0, none⟩ = some (.int .i64 (m : Int)) := by simp [World.cell?, h.ob]
theorem Mat.c1 (h : Mat w go m c M ov gr W) : W.cell? ⟨go, 1, none⟩ = some ov := by simp [World.cell?, h.ob]
theorem Mat.f1 (h : Mat w go m c M ov gr W) : W.frozen? ⟨go, 1, none⟩ = false := by simp [World.frozen?, h.ob]
theorem Mat.shape (h : Mat w go m c M ov gr W) (hc : 0 < c) : ∃ gt cap, ov = .slice (some ⟨gt, 0, none⟩) c cap := by
  rcases h.outer.2 with ⟨_, h0⟩ | ⟨g, cap, _, h', _⟩
  · omega
  · exact ⟨g, cap, h'⟩
theorem Mat.row (h : Mat w go m c M ov gr W) {gt cap i : Nat} (hv : ov = .slice (some ⟨gt, 0, none⟩) c cap) (hi : i < c) : W.cell? ⟨gt, i, none⟩ = some (.slice (some ⟨gr i, 0, none⟩) m m) := by
  have := h.outer
  rw [hv] at this
  rw [this.cellAt i (by omega)]; exact outs_at gr hi
theorem Mat.at (h : Mat w go m c M ov gr W) {i j : Nat} (hi : i < c) (hj : j < m) : W.cell? ⟨gr i, j, none⟩ = some (.bool (M i j)) := by
  rw [(h.inner i hi).cellAt j (by omega)]; exact bools_at (M i) hj
theorem Mat.frz (h : Mat w go m c M ov gr W) {i : Nat} (hi : i < c) (j : Nat) : W.frozen? ⟨gr i, j, none⟩ = false := (h.inner i hi).frozenAt j
theorem Mat.over (h : Mat w go m c M ov gr W) (hb : Below W.heap.size W W') : Mat w go m c M ov gr W' :=
  ⟨(hb.block go h.lt).trans h.ob, h.outer.kept (grown_below (none) hb) (by cases ov.ownBlock <;> simp), fun i hi => (h.inner i hi).kept (grown_below (none) hb) (.inr (by simp [Value.ownBlock])), h.dist, h.ge, h.bl.trans (hb.mono h.bl.size)⟩
theorem Mat.congr (h : Mat w go m c M ov gr W) (e : ∀ i j, i < c → j < m → M i j = M' i j) : Mat w go m c M' ov gr W :=
  ⟨h.ob, h.outer, fun i hi => by rw [← bools_congr fun j hj => e i j hi hj]; exact h.inner i hi, h.dist, h.ge, h.bl⟩
theorem own_blk {w : World} {B : Nat} {e : TypeId} {size : Nat} {v : Value} {n : Nat} {xs : List Value} (h : w.ownsRow B e size v n xs) {g : Nat} (hg : v.ownBlock = some g) : B ≤ g ∧ ∃ cur, w.heap[g]? = some (.cells cur e (0, 0)) := by
  rcases h.2 with ⟨rfl, _⟩ | ⟨g', cap, cur, rfl, hb, hh, _⟩
  · cases hg
  · cases hg; exact ⟨hb, cur, hh⟩
theorem Mat.set (h : Mat w go m c M ov gr W) {a b : Nat} (ha : a < c) (hM : M' a b = true) (e : ∀ i j, i < c → j < m → ¬ (i = a ∧ j = b) → M i j = M' i j) : Mat w go m c M' ov gr (W.setCell ⟨gr a, b, none⟩ (.bool true)) := by
  obtain ⟨h1, h2⟩ := (h.inner a ha).stored b (.bool true)
  obtain ⟨hge, cur, hcur⟩ := own_blk (h.inner a ha) rfl
  have hgo : go ≠ gr a := fun e => by rw [← e, h.ob] at hcur; simp at hcur
  have hov : ov.ownBlock ≠ some (gr a) := fun e => by
    obtain ⟨_, cur', hc'⟩ := own_blk h.outer e
    rw [hcur] at hc'; simp at hc'
  refine ⟨(h2.block go h.lt (by simpa using hgo)).trans h.ob, h.outer.kept h2 (.inr hov), fun i hi => ?_, h.dist, h.ge, h.bl.setCell (p := ⟨gr a, b, none⟩) hge _⟩
  by_cases ei : i = a
  · subst ei
    rw [bools_set (g := M' i) hM (fun j hj hne => e i j hi hj (fun h => hne h.2))] at h1
    exact h1
  · rw [← bools_congr fun j hj => e i j hi hj (fun h => ei h.1)]
    exact (h.inner i hi).kept h2 (.inr (fun e' => ei (h.dist i a hi ha (by simpa [Value.ownBlock] using e'))))
/-- One row more. -/
theorem Mat.push (h : Mat w go m c (fun _ _ => false) ov gr W) {g2 gt cap : Nat} {W1 W2 : World} (hb1 : Below W.heap.size W W1)
    (hrow : W1.ownsRow w.heap.size 4 1 (.slice (some ⟨g2, 0, none⟩) m m) m (bools m fun _ => false)) (hg2 : W.heap.size ≤ g2)
    (hown : W2.ownsRow w.heap.size 166 1 (.slice (some ⟨gt, 0, none⟩) (c + 1) cap) (c + 1) (outs m c gr ++ [.slice (some ⟨g2, 0, none⟩) m m])) (hgrow : W1.grownBy W2 ov.ownBlock) :
    Mat w go m (c + 1) (fun _ _ => false) (.slice (some ⟨gt, 0, none⟩) (c + 1) cap) (fun i => if i = c then g2 else gr i) (W2.setCell ⟨go, 1, none⟩ (.slice (some ⟨gt, 0, none⟩) (c + 1) cap)) := by
  have h1 := h.over hb1
  have hlt1 := h1.lt
  have hne : ov.ownBlock ≠ some go := fun e => by
    obtain ⟨_, cur', hc'⟩ := own_blk h1.outer e
    rw [h1.ob] at hc'; simp at hc'
  have hob2 : W2.heap[go]? = some (.cells #[.int .i64 (m : Int), ov] 165 (0, 0)) := (hgrow.block go hlt1 (fun e => hne e.symm)).trans h1.ob
  obtain ⟨_, curg, hcg⟩ := own_blk hown rfl
  have hgt : gt ≠ go := fun e => by rw [e, hob2] at hcg; simp at hcg
  have hg2lt : g2 < W1.heap.size := by
    obtain ⟨_, cur, hc⟩ := own_blk hrow rfl
    exact (Array.getElem?_eq_some_iff.1 hc).1
  have hbl : ∀ g, ov.ownBlock = some g → w.heap.size ≤ g := fun g e => (own_blk h1.outer e).1
  have hsc : W2.grownBy (W2.setCell ⟨go, 1, none⟩ (.slice (some ⟨gt, 0, none⟩) (c + 1) cap)) (some go) := grown_set W2 go 1 _
  have keepR : ∀ {g : Nat} {xs : List Value}, W1.ownsRow w.heap.size 4 1 (.slice (some ⟨g, 0, none⟩) m m) m xs → (W2.setCell ⟨go, 1, none⟩ (.slice (some ⟨gt, 0, none⟩) (c + 1) cap)).ownsRow w.heap.size 4 1 (.slice (some ⟨g, 0, none⟩) m m) m xs := fun {g xs} hr => by
    obtain ⟨_, cur, hc⟩ := own_blk hr rfl
    have n1 : (Value.slice (some ⟨g, 0, none⟩) m m).ownBlock ≠ ov.ownBlock := fun e => by
      obtain ⟨_, cur', hc'⟩ := own_blk h1.outer (e.symm.trans rfl)
      rw [hc] at hc'; simp at hc'
    have n2 : (Value.slice (some ⟨g, 0, none⟩) m m).ownBlock ≠ some go := fun e => by
      have : g = go := by simpa [Value.ownBlock] using e
      rw [this, h1.ob] at hc; simp at hc
    exact (hr.kept hgrow (.inr n1)).kept hsc (.inr n2)
  refine ⟨?_, ?_, ?_, ?_, h.ge, ?_⟩
  · have := heap_setCell_same W2 go 1 _ 165 (.slice (some ⟨gt, 0, none⟩) (c + 1) cap) hob2
    rw [this]; rfl
  · have := hown.kept hsc (.inr (by simpa [Value.ownBlock] using hgt))
    have e : outs m (c + 1) (fun i => if i = c then g2 else gr i) = outs m c gr ++ [.slice (some ⟨g2, 0, none⟩) m m] := by
      unfold outs
      rw [List.range_succ, List.map_append]
      congr 1
      · exact List.map_congr_left fun i hi => by
          have := List.mem_range.1 hi
          dsimp only
          rw [if_neg (by omega)]
      · simp
    rw [e]; exact this
  · intro i hi
    by_cases e : i = c
    · rw [if_pos e]; exact keepR hrow
    · rw [if_neg e]; exact keepR (h1.inner i (by omega))
  · intro i j hi hj e
    by_cases ei : i = c
    · by_cases ej : j = c
      · omega
      · rw [if_pos ei, if_neg ej] at e
        obtain ⟨_, cur, hc⟩ := own_blk (g := gr j) (h.inner j (by omega)) rfl
        have : gr j < W.heap.size := (Array.getElem?_eq_some_iff.1 hc).1
        omega
    · by_cases ej : j = c
      · rw [if_neg ei, if_pos ej] at e
        obtain ⟨_, cur, hc⟩ := own_blk (g := gr i) (h.inner i (by omega)) rfl
        have : gr i < W.heap.size := (Array.getElem?_eq_some_iff.1 hc).1
        omega
      · rw [if_neg ei, if_neg ej] at e
        exact h.dist i j (by omega) (by omega) e
  · exact (h1.bl.grown hgrow h1.bl.size hbl).setCell (p := ⟨go, 1, none⟩) h.ge _
end
theorem al2 (W : World) (o0 o1 : Obj) : ((W.alloc o0).alloc o1).drew.heap[W.heap.size + 1]? = some o1 := by
  show ((W.heap.push o0).push o1)[W.heap.size + 1]? = some o1
  rw [Array.getElem?_push, if_pos (by simp)]
theorem far_cell {V : World} {g i b j : Nat} {v u : Value} (h : V.cell? ⟨b, j, none⟩ = some u) (hne : b ≠ g) : (V.setCell ⟨g, i, none⟩ v).cell? ⟨b, j, none⟩ = some u := by
  rw [World.cell?_setCell_other _ _ _ _ (by intro e; injection e with e1; exact hne e1.symm)]; exact h
theorem Mat.far {w : World} {go m c : Nat} {M : Nat → Nat → Bool} {gr : Nat → Nat} {W : World} {gt cap : Nat} (h : Mat w go m c M (.slice (some ⟨gt, 0, none⟩) c cap) gr W) {a : Nat} (ha : a < c) : go ≠ gr a ∧ gt ≠ gr a ∧ w.heap.size ≤ gr a := by
  obtain ⟨hge, cur, hcur⟩ := own_blk (h.inner a ha) rfl
  refine ⟨fun e => ?_, fun e => ?_, hge⟩
  · rw [← e, h.ob] at hcur; simp at hcur
  · obtain ⟨_, cur', hc'⟩ := own_blk (g := gt) h.outer rfl
    rw [e, hcur] at hc'; simp at hc'
/-- A turn under way. -/
def tmid (k a b : Nat) (R : Nat → Nat → Bool) (i j : Nat) : Bool := if i < a ∨ (i = a ∧ j < b) then turn k R i j else R i j
theorem tmid_col (k a b : Nat) (R : Nat → Nat → Bool) (i : Nat) : tmid k a b R i k = R i k := by
  unfold tmid; split
  · exact turn_col k R i
  · rfl
theorem tmid_row (k a b : Nat) (R : Nat → Nat → Bool) (j : Nat) : tmid k a b R k j = R k j := by
  unfold tmid; split
  · exact turn_row k R j
  · rfl
theorem tmid_other {k a b : Nat} {R : Nat → Nat → Bool} {i j : Nat} (h : ¬ (i = a ∧ j = b)) : tmid k a b R i j = tmid k a (b + 1) R i j := by
  unfold tmid
  by_cases h1 : i < a ∨ (i = a ∧ j < b)
  · rw [if_pos h1, if_pos (by omega)]
  · rw [if_neg h1, if_neg (by omega)]
theorem tmid_here (k a b : Nat) (R : Nat → Nat → Bool) : tmid k a (b + 1) R a b = (R a b || (R a k && R k b)) := by
  unfold tmid; rw [if_pos (by omega)]; rfl
theorem tmid_now (k a b : Nat) (R : Nat → Nat → Bool) : tmid k a b R a b = R a b := by
  unfold tmid; rw [if_neg (by omega)]
theorem tmid_rowend {k a n : Nat} {R : Nat → Nat → Bool} {i j : Nat} (hj : j < n) : tmid k a n R i j = tmid k (a + 1) 0 R i j := by
  unfold tmid
  by_cases h1 : i < a ∨ (i = a ∧ j < n)
  · rw [if_pos h1, if_pos (by omega)]
  · rw [if_neg h1, if_neg (by omega)]
theorem tmid_end {k n : Nat} {R : Nat → Nat → Bool} {i j : Nat} (hi : i < n) : tmid k n 0 R i j = turn k R i j := by
  unfold tmid; rw [if_pos (by omega)]
theorem tmid_start {k : Nat} {R : Nat → Nat → Bool} {i j : Nat} : tmid k 0 0 R i j = R i j := by
  unfold tmid; rw [if_neg (by omega)]
/-- What the first c pairs say. -/
def relT (L : List (Int × Int)) (c i j : Nat) : Bool := decide (((i : Int), (j : Int)) ∈ L.take c)
theorem relT_all (L : List (Int × Int)) (i j : Nat) : relT L L.length i j = relL L i j := by unfold relT relL; rw [List.take_length]
theorem relT_snoc {L : List (Int × Int)} {c a b : Nat} (h : L[c]? = some ((a : Int), (b : Int))) (i j : Nat) : relT L (c + 1) i j = (relT L c i j || decide (i = a ∧ j = b)) := by
  unfold relT
  rw [take_snocP h, Bool.eq_iff_iff]
  simp only [List.mem_append, List.mem_singleton, Bool.or_eq_true, decide_eq_true_eq, Prod.mk.injEq]
  have : ((i : Int) = (a : Int) ∧ (j : Int) = (b : Int)) ↔ (i = a ∧ j = b) := by omega
  rw [this]
end Go.Proofs.YtahfobbiaimoiaaGreatDoor.O
namespace Go.Proofs.YtahfobbiaimoiaaGreatDoor.O
open Go.RowKit Go.Shelf
/-- Does a come ahead of b, whatever numbers they are? -/
def befI (R : Nat → Nat → Bool) (a b : Int) : Bool := decide (0 ≤ a ∧ 0 ≤ b) && R a.toNat b.toNat
/-- The places of a test, as a word. -/
def accB (f : Nat → Bool) (k : Nat) : Nat := (List.range k).foldl (fun acc a => if f a = true then acc ||| 2 ^ a else acc) 0
theorem accB_snoc (f : Nat → Bool) (k : Nat) : accB f (k + 1) = if f k = true then accB f k ||| 2 ^ k else accB f k := by
  unfold accB; rw [List.range_succ, List.foldl_append]; rfl
theorem accB_bits (f : Nat → Bool) (a : Nat) : ∀ k, (accB f k).testBit a = (decide (a < k) && f a)
  | 0 => by simp [accB]
  | k + 1 => by
    rw [accB_snoc]
    have ih := accB_bits f a k
    by_cases e : a = k
    · subst e
      have h0 : decide (a < a) = false := by simp
      rw [h0, Bool.false_and] at ih
      cases h : f a with
      | true => rw [if_pos rfl, Nat.testBit_or, ih, Nat.testBit_two_pow]; simp
      | false => rw [if_neg (by simp), ih]; simp
    · have hd : decide (a < k + 1) = decide (a < k) := by
        by_cases h : a < k
        · simp [h]; omega
        · simp [h]; omega
      have hp : (2 ^ k).testBit a = false := by rw [Nat.testBit_two_pow]; simp; omega
      cases h : f k with
      | true => rw [if_pos rfl, Nat.testBit_or, ih, hp, hd]; simp
      | false => rw [if_neg (by simp), ih, hd]
theorem accB_lt (f : Nat → Bool) {k : Nat} (hk : k ≤ 64) : accB f k < 18446744073709551616 :=
  small64 hk fun i hi => by
    rw [accB_bits] at hi
    simp only [Bool.and_eq_true, decide_eq_true_eq] at hi
    exact hi.1
theorem bit_test' {r a : Nat} (hr : r < 18446744073709551616) : (bits .and .u64 ((r : Int) / 2 ^ a) 1 == 0) = !r.testBit a := by
  have e : ((r : Int) / 2 ^ a) = ((r / 2 ^ a : Nat) : Int) := by simp
  have hlt : r / 2 ^ a < 18446744073709551616 := Nat.lt_of_le_of_lt (Nat.div_le_self _ _) hr
  rw [e, show (1 : Int) = ((1 : Nat) : Int) from rfl, u64_and_nat _ 1 hlt (by decide), eq_cast, Nat.testBit_eq_decide_div_mod_eq, Nat.and_one_is_mod]
  rcases Nat.mod_two_eq_zero_or_one (r / 2 ^ a) with h | h <;> rw [h] <;> rfl
theorem bit_test1 {r a : Nat} (hr : r < 18446744073709551616) : (bits .and .u64 ((r : Int) / 2 ^ a) 1 == 1) = r.testBit a := by
  have e : ((r : Int) / 2 ^ a) = ((r / 2 ^ a : Nat) : Int) := by simp
  have hlt : r / 2 ^ a < 18446744073709551616 := Nat.lt_of_le_of_lt (Nat.div_le_self _ _) hr
  rw [e, show (1 : Int) = ((1 : Nat) : Int) from rfl, u64_and_nat _ 1 hlt (by decide), Nat.testBit_eq_decide_div_mod_eq, Nat.and_one_is_mod]
  rcases Nat.mod_two_eq_zero_or_one (r / 2 ^ a) with h | h <;> rw [h] <;> rfl
section
variable {w w0 : World} {go m : Nat} {R : Nat → Nat → Bool} {ov : Value} {gr : Nat → Nat} {Pf Sf : Nat → Nat}
set_option maxRecDepth 100000 in
set_option maxHeartbeats 400000 in
theorem refBefore (hM : Mat w0 go m m R ov gr w) (hin : ∀ a b, R a b = true → a < m ∧ b < m) (a b : Int) :
    Calls Tryz.prog 127 #[.pointer (some ⟨go, 0, none⟩), .int .i64 a, .int .i64 b] w fun e w' => e = .returned (.bool (befI R a b)) ∧ w' = w := by
  have c0 := hM.c0
  by_cases h : (0 ≤ a ∧ 0 ≤ b) ∧ a < m ∧ b < m
  · obtain ⟨⟨h1, h2⟩, h3, h4⟩ := h
    obtain ⟨x, rfl⟩ := Int.eq_ofNat_of_zero_le h1
    obtain ⟨y, rfl⟩ := Int.eq_ofNat_of_zero_le h2
    have hx : x < m := by omega
    have hy : y < m := by omega
    obtain ⟨gt, cap, rfl⟩ := hM.shape (by omega)
    have c1 := hM.c1
    have c2 := hM.row rfl hx
    have c3 := hM.at hx hy
    have he : Hid (befI R x y = R x y) := by show _ = _; unfold befI; simp
    generalize R x y = t at *
    generalize gr x = gx at *
    go_enter Tryz.func127, Tryz.ntmps127
    go_wp2
    go_ret
    exact ⟨ret_bool (by rw [he.out]), rfl⟩
  · have he : Hid (befI R a b = false) := by
      show _ = _
      cases e : befI R a b with
      | false => rfl
      | true =>
        unfold befI at e
        rw [Bool.and_eq_true, decide_eq_true_eq] at e
        have := hin _ _ e.2
        exact absurd ⟨e.1, by omega, by omega⟩ h
    have hno : a < 0 ∨ (0 ≤ a ∧ b < 0) ∨ (0 ≤ a ∧ 0 ≤ b ∧ (m : Int) ≤ a) ∨ (0 ≤ a ∧ 0 ≤ b ∧ a < m ∧ (m : Int) ≤ b) := by omega
    clear h
    rcases hno with h | ⟨h1, h2⟩ | ⟨h1, h2, h3⟩ | ⟨h1, h2, h3, h4⟩
    all_goals
      go_enter Tryz.func127, Tryz.ntmps127
      go_wp2
      go_ret
      exact ⟨ret_bool (by rw [he.out]), rfl⟩
set_option maxRecDepth 100000 in
set_option maxHeartbeats 400000 in
theorem refPreds (hM : Mat w0 go m m R ov gr w) (hm : m ≤ 64) (hin : ∀ a b, R a b = true → a < m ∧ b < m) (a : Int) :
    Calls Tryz.prog 98 #[.pointer (some ⟨go, 0, none⟩), .int .i64 a] w fun e w' => e = .returned (.int .u64 (accB (fun i => befI R i a) m : Int)) ∧ w' = w := by
  have c0 := hM.c0
  have KB := hide' (fun i => refBefore hM hin i a)
  clear hM
  generalize hf : (fun i : Nat => befI R (i : Int) a) = f
  have hf' : Hid (∀ i : Nat, befI R (i : Int) a = f i) := fun i => by rw [← hf]
  clear hf
  go_enter Tryz.func98, Tryz.ntmps98
  go_wp2
  go_loop [5, 6] (fun pw pi => ∃ i : Nat, i ≤ m ∧ pi = .int .i64 i ∧ pw = .int .u64 (accB f i : Int)) (fun _ pi => ((m : Int) - intOf pi).toNat)
  case atStart => exact ⟨0, Nat.zero_le _, rfl, rfl⟩
  case round =>
    obtain ⟨i, hi, rfl, rfl⟩ := hrel
    by_cases hlt : i < m
    · have K1 := KB.out (i : Int)
      rw [hf'.out i] at K1
      have hsn := accB_snoc f i
      have hsh := shlc i (by omega)
      have hpw : (2 ^ i : Nat) < 18446744073709551616 := Nat.lt_of_lt_of_le (Nat.pow_lt_pow_right (by decide) (show i < 64 by omega)) (by decide)
      have hor := u64_or_nat (accB f i) (2 ^ i) (accB_lt f (by omega)) hpw
      cases hfi : f i with
      | true =>
        rw [hfi] at K1 hsn
        rw [if_pos rfl] at hsn
        rw [← hsn] at hor
        have K1' := hide' K1
        clear hsn K1 hfi
        generalize hy : accB f (i + 1) = y at *
        have hy' := hide' hy
        clear hy
        generalize accB f i = x at *
        generalize 2 ^ i = pw at *
        go_wp2_with (go_at_call 127; refine K1'.out.mono ?_; rintro e w1 ⟨rfl, rfl⟩)
        exact ⟨⟨i + 1, by omega, by go_num, by rw [hy'.out]⟩, by simp [intOf]; omega⟩
      | false =>
        rw [hfi] at K1 hsn
        rw [if_neg (by simp)] at hsn
        have K1' := hide' K1
        have hsn' := hide' hsn
        clear hsn K1 hfi hor hsh hpw
        go_wp2_with (go_at_call 127; refine K1'.out.mono ?_; rintro e w1 ⟨rfl, rfl⟩)
        exact ⟨⟨i + 1, by omega, by go_num, by rw [hsn'.out]⟩, by simp [intOf]; omega⟩
    · obtain rfl : i = m := by omega
      go_wp2
      go_ret
      exact ⟨rfl, rfl⟩
/-- What is ready, by a test. -/
def rdT (Pf : Nat → Nat) (d a : Nat) : Bool := !d.testBit a && (Pf a &&& (18446744073709551615 - d) == 0)
/-- Down, place by place. -/
def dnT (m : Nat) (Pf : Nat → Nat) (d a : Nat) : Bool := d.testBit a && (decide (m ≤ a) || !(Pf a &&& (18446744073709551615 - d) == 0))
def dnAll (f : Nat → Bool) : Bool := (List.range 64).all fun a => !f a
theorem dnAll_iff (f : Nat → Bool) : dnAll f = true ↔ ∀ a, a < 64 → f a = false := by
  unfold dnAll
  rw [List.all_eq_true]
  constructor
  · intro h a ha
    have := h a (List.mem_range.2 ha)
    simpa using this
  · intro h a ha
    rw [h a (List.mem_range.1 ha)]; rfl
end
end Go.Proofs.YtahfobbiaimoiaaGreatDoor.O
namespace Go.Proofs.YtahfobbiaimoiaaGreatDoor
/-- How a step stands, an event, a run: told plainly. -/
structure SS where
  st : Int
  us : Int
  ca : Int
  da : Int
structure Ev where
  tick : Int
  kind : Int
  step : Int
  user : Int
structure Rs where
  S : List SS
  stat : Int
  log : List Ev
/-- The steps that stand so, as a word. -/
def thB (S : List SS) (k : Int) (i : Nat) : Bool := decide ((S[i]?.map SS.st) = some k)
def thz (S : List SS) (k : Int) : Nat := O.accB (thB S k) S.length
theorem thz_bit (S : List SS) (k : Int) (i : Nat) : (thz S k).testBit i = thB S k i := by
  unfold thz
  rw [O.accB_bits]
  by_cases h : i < S.length
  · simp [h]
  · have e : S[i]? = none := List.getElem?_eq_none (by omega)
    simp [thB, h]
theorem thz_lt (S : List SS) (k : Int) (h : S.length ≤ 64) : thz S k < 18446744073709551616 := O.accB_lt _ h
/-- How many are open; how many are not completed. -/
def lefA (S : List SS) : Nat := S.countP fun s => decide (s.st = 0)
def lefB (S : List SS) : Nat := S.countP fun s => decide (s.st = 0) || decide (s.st = 1)
theorem lefA_snoc (S : List SS) (s : SS) : lefA (S ++ [s]) = lefA S + if s.st = 0 then 1 else 0 := by
  unfold lefA
  rw [List.countP_append, List.countP_singleton]
  simp
theorem lefB_snoc (S : List SS) (s : SS) : lefB (S ++ [s]) = lefB S + if s.st = 0 ∨ s.st = 1 then 1 else 0 := by
  unfold lefB
  rw [List.countP_append, List.countP_singleton]
  simp
theorem lefA_le (S : List SS) : lefA S ≤ S.length := List.countP_le_length
theorem lefB_le (S : List SS) : lefB S ≤ S.length := List.countP_le_length
theorem lefA_set {S : List SS} {i : Nat} {s t : SS} (h : S[i]? = some s) : lefA (S.set i t) + (if s.st = 0 then 1 else 0) = lefA S + (if t.st = 0 then 1 else 0) := by
  induction S generalizing i with
  | nil => cases h
  | cons a l ih =>
    cases i with
    | zero =>
      simp at h; subst h
      unfold lefA
      simp only [List.set_cons_zero, List.countP_cons]
      simp only [decide_eq_true_eq]
      omega
    | succ i =>
      have := ih (i := i) (by simpa using h)
      unfold lefA at *
      simp only [List.set_cons_succ, List.countP_cons]
      omega
theorem lefB_set {S : List SS} {i : Nat} {s t : SS} (h : S[i]? = some s) : lefB (S.set i t) + (if s.st = 0 ∨ s.st = 1 then 1 else 0) = lefB S + (if t.st = 0 ∨ t.st = 1 then 1 else 0) := by
  induction S generalizing i with
  | nil => cases h
  | cons a l ih =>
    cases i with
    | zero =>
      simp at h; subst h
      unfold lefB
      simp only [List.set_cons_zero, List.countP_cons]
      simp only [Bool.or_eq_true, decide_eq_true_eq]
      omega
    | succ i =>
      have := ih (i := i) (by simpa using h)
      unfold lefB at *
      simp only [List.set_cons_succ, List.countP_cons]
      omega
def endd (R : Rs) : Bool := decide (R.stat = 3) || decide (R.stat = 4)
def hasS (R : Rs) (step : Int) : Bool := decide (0 ≤ step) && decide (step < (R.S.length : Int))
def sAt (R : Rs) (step : Int) : SS := R.S[step.toNat]?.getD ⟨0, 0, 0, 0⟩
/-- What a claim is refused for. -/
def canC (Pf : Nat → Nat) (R : Rs) (step : Int) : Int :=
  if endd R = true then 30 else if hasS R step = false then 25 else if (sAt R step).st ≠ 0 then 31 else
  if Pf step.toNat &&& (18446744073709551615 - thz R.S 2) ≠ 0 then 32 else 0
def canD (R : Rs) (step user : Int) : Int :=
  if endd R = true then 30 else if hasS R step = false then 25 else if (sAt R step).st = 0 then 35 else
  if (sAt R step).st = 2 then 37 else if (sAt R step).us ≠ user then 36 else 0
/-- What an event does. -/
def hapS (R : Rs) (st : Int) (e : Ev) : Rs := ⟨R.S, st, R.log ++ [e]⟩
def hapC (R : Rs) (step user tick : Int) : Rs := ⟨R.S.set step.toNat ⟨1, user, tick, 0⟩, R.stat, R.log ++ [⟨tick, 2, step, user⟩]⟩
def dnS (R : Rs) (step tick : Int) : List SS := R.S.set step.toNat ⟨2, (sAt R step).us, (sAt R step).ca, tick⟩
def hapD (R : Rs) (step user tick : Int) : Rs :=
  if lefB (dnS R step tick) = 0 then ⟨dnS R step tick, 3, R.log ++ [⟨tick, 3, step, user⟩, ⟨tick, 7, -1, -1⟩]⟩
  else ⟨dnS R step tick, R.stat, R.log ++ [⟨tick, 3, step, user⟩]⟩
def clmR (Pf : Nat → Nat) (R : Rs) (step user tick : Int) : Rs := if canC Pf R step = 0 then hapC R step user tick else R
def donR (R : Rs) (step user tick : Int) : Rs := if canD R step user = 0 then hapD R step user tick else R
def aboR (R : Rs) (tick : Int) : Rs := if endd R = true then R else hapS R 4 ⟨tick, 4, -1, -1⟩
def mrkB (R : Rs) (b : Bool) : Bool := !(endd R) && !(b == decide (R.stat = 2))
def mrkR (R : Rs) (b : Bool) (tick : Int) : Rs := if mrkB R b = true then hapS R (if b then 2 else 1) ⟨tick, if b then 5 else 6, -1, -1⟩ else R
def newR (n : Nat) (tick : Int) : Rs := ⟨List.replicate n ⟨0, -1, 0, 0⟩, 1, [⟨tick, 1, -1, -1⟩]⟩
/-- What every run keeps. -/
structure RsOk (n : Nat) (R : Rs) : Prop where
  len : R.S.length = n
  st : ∀ (i : Nat) (s : SS), R.S[i]? = some s → s.st = 0 ∨ s.st = 1 ∨ s.st = 2
  stat : R.stat = 1 ∨ R.stat = 2 ∨ R.stat = 3 ∨ R.stat = 4
  fin : R.stat = 3 ↔ lefB R.S = 0
theorem lefB_zero {S : List SS} (h : lefB S = 0) {i : Nat} {s : SS} (hs : S[i]? = some s) : s.st ≠ 0 ∧ s.st ≠ 1 := by
  unfold lefB at h
  rw [List.countP_eq_zero] at h
  have := h s (List.mem_of_getElem? hs)
  simp at this
  exact this
theorem lefB_rep (n : Nat) : lefB (List.replicate n ⟨0, -1, 0, 0⟩) = n := by
  unfold lefB; rw [List.countP_replicate]; simp
theorem lefA_rep (n : Nat) : lefA (List.replicate n ⟨0, -1, 0, 0⟩) = n := by
  unfold lefA; rw [List.countP_replicate]; simp
theorem newR_ok (n : Nat) (hn : n ≠ 0) (tick : Int) : RsOk n (newR n tick) := by
  refine ⟨by simp [newR], fun i s hs => ?_, .inl rfl, ?_⟩
  · simp only [newR, List.getElem?_replicate] at hs
    split at hs
    · cases hs; exact .inl rfl
    · cases hs
  · show (1 : Int) = 3 ↔ lefB (List.replicate n _) = 0
    rw [lefB_rep]
    omega
theorem set_st {S : List SS} {i j : Nat} {t s : SS} (h : (S.set i t)[j]? = some s) (hS : ∀ (i : Nat) (s : SS), S[i]? = some s → s.st = 0 ∨ s.st = 1 ∨ s.st = 2) (ht : t.st = 0 ∨ t.st = 1 ∨ t.st = 2) : s.st = 0 ∨ s.st = 1 ∨ s.st = 2 := by
  rw [List.getElem?_set] at h
  split at h
  · split at h
    · cases h; exact ht
    · cases h
  · exact hS j s h
theorem hasS_iff {R : Rs} {step : Int} (h : hasS R step = true) : 0 ≤ step ∧ step.toNat < R.S.length ∧ step = (step.toNat : Int) := by
  unfold hasS at h
  simp at h
  omega
theorem sAt_some {R : Rs} {step : Int} (h : hasS R step = true) : R.S[step.toNat]? = some (sAt R step) := by
  have := hasS_iff h
  unfold sAt
  rw [List.getElem?_eq_getElem this.2.1]
  rfl
theorem canC_zero {Pf : Nat → Nat} {R : Rs} {step : Int} (h : canC Pf R step = 0) : endd R = false ∧ hasS R step = true ∧ (sAt R step).st = 0 ∧ Pf step.toNat &&& (18446744073709551615 - thz R.S 2) = 0 := by
  unfold canC at h
  split at h
  · cases h
  · split at h
    · cases h
    · split at h
      · cases h
      · split at h
        · cases h
        · rename_i h1 h2 h3 h4
          exact ⟨by simpa using h1, by simpa using h2, Classical.not_not.1 h3, Classical.not_not.1 h4⟩
theorem canD_zero {R : Rs} {step user : Int} (h : canD R step user = 0) : endd R = false ∧ hasS R step = true ∧ (sAt R step).st ≠ 0 ∧ (sAt R step).st ≠ 2 ∧ (sAt R step).us = user := by
  unfold canD at h
  split at h
  · cases h
  · split at h
    · cases h
    · split at h
      · cases h
      · split at h
        · cases h
        · split at h
          · cases h
          · rename_i h1 h2 h3 h4 h5
            exact ⟨by simpa using h1, by simpa using h2, h3, h4, Classical.not_not.1 h5⟩
theorem not_end {n : Nat} {R : Rs} (h : RsOk n R) (he : endd R = false) : R.stat = 1 ∨ R.stat = 2 := by
  unfold endd at he
  simp at he
  rcases h.stat with e | e | e | e
  · exact .inl e
  · exact .inr e
  · exact absurd e he.1
  · exact absurd e he.2
theorem clmR_ok {n : Nat} {R : Rs} (Pf : Nat → Nat) (h : RsOk n R) (step user tick : Int) : RsOk n (clmR Pf R step user tick) := by
  unfold clmR
  split
  · rename_i hc
    obtain ⟨h1, h2, h3, h4⟩ := canC_zero hc
    have hs := sAt_some h2
    have e := lefB_set (t := ⟨1, user, tick, 0⟩) hs
    rw [if_pos (.inl h3), if_pos (.inr rfl)] at e
    refine ⟨by simp [hapC, h.len], fun i s hs => set_st hs h.st (.inr (.inl rfl)), h.stat, ?_⟩
    show R.stat = 3 ↔ lefB (R.S.set step.toNat ⟨1, user, tick, 0⟩) = 0
    rw [h.fin]
    omega
  · exact h
theorem hapD_S (R : Rs) (step user tick : Int) : (hapD R step user tick).S = dnS R step tick := by unfold hapD; split <;> rfl
theorem donR_ok {n : Nat} {R : Rs} (h : RsOk n R) (step user tick : Int) : RsOk n (donR R step user tick) := by
  unfold donR
  split
  · rename_i hc
    obtain ⟨h1, h2, h3, h4, h5⟩ := canD_zero hc
    refine ⟨by rw [hapD_S]; simp [dnS, h.len], fun i s hs => by rw [hapD_S] at hs; exact set_st hs h.st (.inr (.inr rfl)), ?_, ?_⟩
    · unfold hapD
      split
      · exact .inr (.inr (.inl rfl))
      · exact h.stat
    · rw [hapD_S]
      unfold hapD
      split
      · rename_i e; simp [e]
      · rename_i e
        show R.stat = 3 ↔ _
        rcases not_end h h1 with e2 | e2 <;> rw [e2] <;> simp [e]
  · exact h
theorem aboR_ok {n : Nat} {R : Rs} (h : RsOk n R) (tick : Int) : RsOk n (aboR R tick) := by
  unfold aboR
  split
  · exact h
  · rename_i he
    refine ⟨h.len, h.st, .inr (.inr (.inr rfl)), ?_⟩
    show (4 : Int) = 3 ↔ lefB R.S = 0
    rw [← h.fin]
    rcases not_end h (by simpa using he) with e2 | e2 <;> rw [e2] <;> decide
theorem mrkR_ok {n : Nat} {R : Rs} (h : RsOk n R) (b : Bool) (tick : Int) : RsOk n (mrkR R b tick) := by
  unfold mrkR
  split
  · rename_i hm
    have he : endd R = false := by unfold mrkB at hm; simp at hm; exact hm.1
    refine ⟨h.len, h.st, by cases b <;> simp [hapS], ?_⟩
    show (if b = true then (2 : Int) else 1) = 3 ↔ lefB R.S = 0
    rw [← h.fin]
    rcases not_end h he with e2 | e2 <;> rw [e2] <;> cases b <;> decide
  · exact h
/-- What is ready. -/
def rdyR (n : Nat) (Pf : Nat → Nat) (R : Rs) : Nat := if endd R = true then 0 else O.rdW n Pf (thz R.S 2) &&& thz R.S 0
end Go.Proofs.YtahfobbiaimoiaaGreatDoor
namespace Go.Proofs.YtahfobbiaimoiaaGreatDoor
/-- One call of a run, told plainly. -/
structure Oq where
  on : Int
  op : Int
  step : Int
  user : Int
  tick : Int
  stuck : Bool
/-- What a law's call does to a run: claims, completions, marks; aborts where they are played. -/
def plyR (ab : Bool) (Pf : Nat → Nat) (R : Rs) (o : Oq) : Rs :=
  if o.op = 1 then clmR Pf R o.step o.user o.tick else if o.op = 2 then donR R o.step o.user o.tick else
  if o.op = 3 ∧ ab = true then aboR R o.tick else if o.op = 4 then mrkR R o.stuck o.tick else R
theorem plyR_ok {n : Nat} {R : Rs} (ab : Bool) (Pf : Nat → Nat) (h : RsOk n R) (o : Oq) : RsOk n (plyR ab Pf R o) := by
  unfold plyR
  split
  · exact clmR_ok Pf h _ _ _
  · split
    · exact donR_ok h _ _ _
    · split
      · exact aboR_ok h _
      · split
        · exact mrkR_ok h _ _
        · exact h
def plyL (ab : Bool) (Pf : Nat → Nat) (R : Rs) (L : List Oq) : Rs := L.foldl (plyR ab Pf) R
theorem plyL_snoc (ab : Bool) (Pf : Nat → Nat) (R : Rs) (L : List Oq) (o : Oq) : plyL ab Pf R (L ++ [o]) = plyR ab Pf (plyL ab Pf R L) o := by simp [plyL]
theorem hapD_4 {R : Rs} (h : R.stat ≠ 4) (step user tick : Int) : (hapD R step user tick).stat ≠ 4 := by
  unfold hapD
  split
  · show (3 : Int) ≠ 4
    decide
  · exact h
theorem plyR_4 {R : Rs} (Pf : Nat → Nat) (h : R.stat ≠ 4) (o : Oq) : (plyR false Pf R o).stat ≠ 4 := by
  unfold plyR
  split
  · unfold clmR; split
    · exact h
    · exact h
  · split
    · unfold donR; split
      · exact hapD_4 h _ _ _
      · exact h
    · split
      · rename_i hh; cases hh.2
      · split
        · unfold mrkR; split
          · show (if o.stuck = true then (2 : Int) else 1) ≠ 4
            split <;> decide
          · exact h
        · exact h
theorem lefA_leB (S : List SS) : lefA S ≤ lefB S := by
  unfold lefA lefB
  exact List.countP_mono_left fun s _ h => by simp at h; simp [h]
/-- A step that is claimed is completed by its user. -/
theorem dn_ok {n : Nat} {R : Rs} (_h : RsOk n R) (he : endd R = false) {i : Nat} {s : SS} (hs : R.S[i]? = some s) (h1 : s.st = 1) :
    canD R (i : Int) s.us = 0 ∧ lefA (donR R (i : Int) s.us 9).S = lefA R.S ∧ lefB (donR R (i : Int) s.us 9).S + 1 = lefB R.S := by
  have hi := (List.getElem?_eq_some_iff.1 hs).1
  have hh : hasS R (i : Int) = true := by unfold hasS; simp [hi]
  have e : sAt R (i : Int) = s := by unfold sAt; rw [Int.toNat_natCast, hs]; rfl
  have hc : canD R (i : Int) s.us = 0 := by
    unfold canD
    rw [if_neg (by rw [he]; decide), if_neg (by rw [hh]; decide), e, if_neg (by rw [h1]; decide), if_neg (by rw [h1]; decide), if_neg (by simp)]
  have hS : (donR R (i : Int) s.us 9).S = R.S.set i ⟨2, s.us, s.ca, 9⟩ := by
    unfold donR
    rw [if_pos hc, hapD_S]
    unfold dnS
    rw [e, Int.toNat_natCast]
  have a := lefA_set (t := ⟨2, s.us, s.ca, 9⟩) hs
  have b := lefB_set (t := ⟨2, s.us, s.ca, 9⟩) hs
  rw [if_neg (by rw [h1]; decide), if_neg (show ¬ (2 : Int) = 0 by decide)] at a
  rw [if_pos (.inr h1), if_neg (show ¬ ((2 : Int) = 0 ∨ (2 : Int) = 1) by decide)] at b
  rw [hS]
  exact ⟨hc, a, b⟩
/-- What is ready can be claimed. -/
theorem cl_ok {n : Nat} {Rel : Nat → Nat → Bool} {Pf Sf : Nat → Nat} {R : Rs} (hO : O.Ord n Rel Pf Sf) (h : RsOk n R) (he : endd R = false) {i : Nat} (hi : i < n) (hb : (rdyR n Pf R).testBit i = true) (u : Int) :
    canC Pf R (i : Int) = 0 ∧ lefA (clmR Pf R (i : Int) u 9).S + 1 = lefA R.S ∧ lefB (clmR Pf R (i : Int) u 9).S = lefB R.S := by
  have hd := thz_lt R.S 2 (by rw [h.len]; exact hO.n64)
  unfold rdyR at hb
  rw [if_neg (by rw [he]; decide), Nat.testBit_and, Bool.and_eq_true, thz_bit] at hb
  obtain ⟨hb1, hb2⟩ := hb
  have hr := (hO.rdW_bits hd i).1 hb1
  obtain ⟨s, hs⟩ : ∃ s, R.S[i]? = some s := ⟨_, List.getElem?_eq_getElem (by rw [h.len]; exact hi)⟩
  have h0 : s.st = 0 := by unfold thB at hb2; rw [hs] at hb2; simpa using hb2
  have hh : hasS R (i : Int) = true := by unfold hasS; simp [h.len, hi]
  have e : sAt R (i : Int) = s := by unfold sAt; rw [Int.toNat_natCast, hs]; rfl
  have hc : canC Pf R (i : Int) = 0 := by
    unfold canC
    rw [if_neg (by rw [he]; decide), if_neg (by rw [hh]; decide), e, if_neg (by rw [h0]; decide), Int.toNat_natCast, hO.pre_in hd hr, if_neg (by simp)]
  have hS : (clmR Pf R (i : Int) u 9).S = R.S.set i ⟨1, u, 9, 0⟩ := by
    unfold clmR
    rw [if_pos hc]
    show R.S.set (i : Int).toNat _ = _
    rw [Int.toNat_natCast]
  have a := lefA_set (t := ⟨1, u, 9, 0⟩) hs
  have b := lefB_set (t := ⟨1, u, 9, 0⟩) hs
  rw [if_pos h0, if_neg (show ¬ (1 : Int) = 0 by decide)] at a
  rw [if_pos (.inl h0), if_pos (.inr rfl)] at b
  rw [hS]
  exact ⟨hc, a, by omega⟩
/-- There is a step with which it goes on. -/
theorem some_move {n : Nat} {Rel : Nat → Nat → Bool} {Pf Sf : Nat → Nat} {R : Rs} (hO : O.Ord n Rel Pf Sf) (h : RsOk n R) (he : endd R = false) : ∃ (i : Nat) (s : SS), i < n ∧ R.S[i]? = some s ∧ (s.st = 1 ∨ (rdyR n Pf R).testBit i = true) := by
  have hd := thz_lt R.S 2 (by rw [h.len]; exact hO.n64)
  have hB : lefB R.S ≠ 0 := fun e => by
    have := h.fin.2 e
    rcases not_end h he with e2 | e2 <;> rw [e2] at this <;> cases this
  have hex : ∃ (i : Nat) (s : SS), R.S[i]? = some s ∧ (s.st = 0 ∨ s.st = 1) := by
    have : 0 < lefB R.S := by omega
    unfold lefB at this
    rw [List.countP_pos_iff] at this
    obtain ⟨s, hs, hp⟩ := this
    obtain ⟨i, hi, e⟩ := List.getElem_of_mem hs
    exact ⟨i, s, by rw [List.getElem?_eq_getElem hi, e], by simpa using hp⟩
  obtain ⟨i, s, hs, hp⟩ := hex
  have hi : i < n := by rw [← h.len]; exact (List.getElem?_eq_some_iff.1 hs).1
  have hdi : (thz R.S 2).testBit i = false := by
    rw [thz_bit]
    unfold thB
    rw [hs]
    rcases hp with e | e <;> simp [e]
  obtain ⟨b, hb⟩ := hO.some_ready (d := thz R.S 2) (Pf i) i (Nat.le_refl _) hi hdi
  obtain ⟨t, ht⟩ : ∃ t, R.S[b]? = some t := ⟨_, List.getElem?_eq_getElem (by rw [h.len]; exact hb.1)⟩
  have hbd := hb.2.1
  rw [thz_bit] at hbd
  have h2 : t.st ≠ 2 := fun e => by unfold thB at hbd; rw [ht] at hbd; simp [e] at hbd
  rcases h.st b t ht with e | e | e
  · refine ⟨b, t, hb.1, ht, .inr ?_⟩
    unfold rdyR
    rw [if_neg (by rw [he]; decide), Nat.testBit_and, (hO.rdW_bits hd b).2 hb, thz_bit]
    unfold thB
    rw [ht]
    simp [e]
  · exact ⟨b, t, hb.1, ht, .inl e⟩
  · exact absurd e h2
end Go.Proofs.YtahfobbiaimoiaaGreatDoor
namespace Go.Proofs.YtahfobbiaimoiaaGreatDoor.O
section
variable {n : Nat} {R : Nat → Nat → Bool} {Pf Sf : Nat → Nat} (h : Ord n R Pf Sf)
include h
theorem Ord.preR (a : Int) : accB (fun i => befI R i a) n = preI n Pf a := by
  apply Nat.eq_of_testBit_eq
  intro i
  rw [accB_bits]
  unfold befI preI
  by_cases ha : 0 ≤ a ∧ a < n
  · rw [if_pos ha, h.pre a.toNat (by omega)]
    by_cases hi : i < n
    · simp [hi, ha.1]
    · cases e : R i a.toNat with
      | false => simp [hi]
      | true => exact absurd (h.inn _ _ e).1 hi
  · rw [if_neg ha, Nat.zero_testBit]
    by_cases h0 : 0 ≤ a
    · cases e : R i a.toNat with
      | false => simp [e]
      | true =>
        have := (h.inn _ _ e).2
        exact absurd ⟨h0, by omega⟩ ha
    · simp [h0]
theorem Ord.preN {a : Nat} (ha : a < n) : accB (fun i => befI R i (a : Int)) n = Pf a ∧ Pf a < 18446744073709551616 := by
  refine ⟨?_, h.pre_lt ha⟩
  rw [h.preR]
  unfold preI
  rw [if_pos (by omega), Int.toNat_natCast]
end
end Go.Proofs.YtahfobbiaimoiaaGreatDoor.O
