/- Rows of pairs in memory; the links of a hierarchy as pairs, plain. -/
import Derived.Test.YtegpgjiccpglbaaDoorYFn3
import Derived.OwnWalk
import Derived.WalkSmall
import Derived.Laws.Rows
import Derived.Deep.AppendLies
import Derived.Laws.AppendOwnNone
namespace Go.Proofs.YtegpgjiccpglbaaDoor
open Go.RowKit
theorem infoP : (Tryd.prog.info? 42).map (fun i => (i.zero, i.size, i.bytes)) = some (some (.agg #[.int .i64 0, .int .i64 0]), 2, 16) := by kernel_rfl
/-- Pairs as a row's cells. -/
def cellsP (L : List (Int × Int)) : List Value := L.flatMap fun p => [Value.int .i64 p.1, Value.int .i64 p.2]
theorem cellsP_len (L : List (Int × Int)) : (cellsP L).length = L.length * 2 := by
  induction L with
  | nil => rfl
  | cons p L ih => unfold cellsP at *; rw [List.flatMap_cons, List.length_append, ih]; simp; omega
theorem cellsP_at : ∀ (L : List (Int × Int)) (i : Nat), (cellsP L)[i * 2]? = L[i]?.map (fun p => Value.int .i64 p.1) ∧ (cellsP L)[i * 2 + 1]? = L[i]?.map (fun p => Value.int .i64 p.2)
  | [], i => by simp [cellsP]
  | p :: L, 0 => by simp [cellsP]
  | p :: L, i + 1 => by
    have ih := cellsP_at L i
    have e : cellsP (p :: L) = Value.int .i64 p.1 :: Value.int .i64 p.2 :: cellsP L := rfl
    rw [e, show (i + 1) * 2 = i * 2 + 1 + 1 by omega, List.getElem?_cons_succ, List.getElem?_cons_succ, show i * 2 + 1 + 1 + 1 = (i * 2 + 1) + 1 + 1 by omega, List.getElem?_cons_succ, List.getElem?_cons_succ, List.getElem?_cons_succ]
    exact ih
theorem cellsP_inv {L : List (Int × Int)} {j : Nat} {u : Value} (h : (cellsP L)[j]? = some u) : ∃ i p, L[i]? = some p ∧ ((j = i * 2 ∧ u = .int .i64 p.1) ∨ (j = i * 2 + 1 ∧ u = .int .i64 p.2)) := by
  have ⟨h1, h2⟩ := cellsP_at L (j / 2)
  rcases Nat.mod_two_eq_zero_or_one j with e | e
  · rw [show j / 2 * 2 = j by omega, h] at h1
    cases hp : L[j / 2]? with
    | none => rw [hp] at h1; cases h1
    | some p => rw [hp] at h1; exact ⟨j / 2, p, hp, .inl ⟨by omega, by simpa using h1⟩⟩
  · rw [show j / 2 * 2 + 1 = j by omega, h] at h2
    cases hp : L[j / 2]? with
    | none => rw [hp] at h2; cases h2
    | some p => rw [hp] at h2; exact ⟨j / 2, p, hp, .inr ⟨by omega, by simpa using h2⟩⟩
theorem cellsP_one (L : List (Int × Int)) : ∀ u ∈ cellsP L, u.oneCell' = true := fun u hu => by
  obtain ⟨j, hj⟩ := List.getElem?_of_mem hu
  obtain ⟨i, p, _, (⟨_, rfl⟩ | ⟨_, rfl⟩)⟩ := cellsP_inv hj <;> rfl
theorem info_q {P : Program} {t : TypeId} {z : Option Value} {s b : Nat} (h : (P.info? t).map (fun i => (i.zero, i.size, i.bytes)) = some (z, s, b)) : ∃ i, P.info? t = some i ∧ i.zero = z ∧ i.size = s ∧ i.bytes = b := by
  cases e : P.info? t with
  | none => rw [e] at h; cases h
  | some i => rw [e] at h; simp at h; exact ⟨i, rfl, h.1, h.2.1, h.2.2⟩
theorem cellsP_snoc (L : List (Int × Int)) (x y : Int) : cellsP (L ++ [(x, y)]) = cellsP L ++ [.int .i64 x, .int .i64 y] := by simp [cellsP]
theorem cell_lt {W : World} {b o : Nat} {v : Value} (h : W.cell? ⟨b, o, none⟩ = some v) : b < W.heap.size := by
  unfold World.cell? at h
  cases e : W.heap[b]? with
  | none => simp [e] at h
  | some x => exact (Array.getElem?_eq_some_iff.1 e).1
theorem cell_over {W W' : World} {b i : Nat} {v : Value} (h : W.cell? ⟨b, i, none⟩ = some v) (hb : Below W.heap.size W W') : W'.cell? ⟨b, i, none⟩ = some v := (hb.cell (p := ⟨b, i, none⟩) (cell_lt h)).trans h
/-- A row of pairs, as it is read. -/
def PairsAt (W : World) (v : Value) (L : List (Int × Int)) : Prop :=
  ∃ oa cap, v = .slice oa L.length cap ∧ (L.length ≤ cap ∧ (oa = none → cap = 0)) ∧ ∀ (i : Nat) (p : Int × Int), L[i]? = some p → ∃ g o, oa = some ⟨g, o, none⟩ ∧ W.cell? ⟨g, o + i * 2, none⟩ = some (.int .i64 p.1) ∧ W.cell? ⟨g, o + i * 2 + 1, none⟩ = some (.int .i64 p.2)
theorem PairsAt.over {W W' : World} {v : Value} {L : List (Int × Int)} (h : PairsAt W v L) (hb : Below W.heap.size W W') : PairsAt W' v L := by
  obtain ⟨oa, cap, h1, h2, h3⟩ := h
  refine ⟨oa, cap, h1, h2, fun i p hp => ?_⟩
  obtain ⟨g, o, e, c1, c2⟩ := h3 i p hp
  exact ⟨g, o, e, cell_over c1 hb, cell_over c2 hb⟩
theorem PairsAt.of_owns {W : World} {n₀ : Nat} {v : Value} {L : List (Int × Int)} (h : W.ownsRow n₀ 42 2 v L.length (cellsP L)) : PairsAt W v L := by
  rcases h.2 with ⟨rfl, h0⟩ | ⟨g, cap, cur, rfl, _, hb, hcap, _, _, _⟩
  · refine ⟨none, 0, by rw [h0], ⟨by omega, fun _ => rfl⟩, fun i p hp => ?_⟩
    have := (List.getElem?_eq_some_iff.1 hp).1
    omega
  · refine ⟨_, cap, rfl, ⟨hcap, fun e => by cases e⟩, fun i p hp => ⟨g, 0, rfl, ?_, ?_⟩⟩
    · have hi := (List.getElem?_eq_some_iff.1 hp).1
      rw [Nat.zero_add, h.cellAt (i * 2) (by omega), (cellsP_at L i).1, hp]; rfl
    · have hi := (List.getElem?_eq_some_iff.1 hp).1
      rw [Nat.zero_add, h.cellAt (i * 2 + 1) (by omega), (cellsP_at L i).2, hp]; rfl
theorem owns_shape {W : World} {base : Nat} {e : TypeId} {size : Nat} {v : Value} {n : Nat} {xs : List Value} (h : W.ownsRow base e size v n xs) : ∃ oa cap, v = .slice oa n cap := by
  rcases h.2 with ⟨rfl, rfl⟩ | ⟨g, cap, _, rfl, _⟩
  · exact ⟨none, 0, rfl⟩
  · exact ⟨_, cap, rfl⟩
theorem owns_ge {W : World} {base : Nat} {e : TypeId} {size : Nat} {v : Value} {n : Nat} {xs : List Value} (h : W.ownsRow base e size v n xs) : ∀ k, v.ownBlock = some k → base ≤ k := fun k ek => by
  rcases h.2 with ⟨rfl, _⟩ | ⟨g, cap, cur, rfl, hb, _⟩
  · cases ek
  · cases ek; exact hb
theorem owns_over {W W' : World} {base : Nat} {e : TypeId} {size : Nat} {v : Value} {n : Nat} {xs : List Value} (h : W.ownsRow base e size v n xs) (hb : Below W.heap.size W W') : W'.ownsRow base e size v n xs := h.kept (grown_below none hb) (by cases v.ownBlock <;> simp)
/-- The links of one place. -/
def lkRow (a : Nat) (l : List (Fin 64)) : List (Int × Int) := l.map fun b => ((a : Int), (b.val : Int))
/-- The links of the first k places. -/
def lksN (J : Nat → Nat) (k : Nat) : List (Int × Int) := (List.range k).flatMap fun a => lkRow a (nums (J a))
def lks (J : Nat → Nat) : List (Int × Int) := lksN J 64
theorem lksN_snoc (J : Nat → Nat) (k : Nat) : lksN J (k + 1) = lksN J k ++ lkRow k (nums (J k)) := by
  unfold lksN; rw [List.range_succ, List.flatMap_append]; simp
theorem lkRow_snoc (a : Nat) (l : List (Fin 64)) (b : Fin 64) : lkRow a (l ++ [b]) = lkRow a l ++ [((a : Int), (b.val : Int))] := by simp [lkRow]
theorem nums_len64 (x : Nat) : (nums x).length ≤ 64 := by
  unfold nums
  exact Nat.le_trans (List.length_filter_le _ _) (by simp)
theorem lksN_len (J : Nat → Nat) : ∀ k, (lksN J k).length ≤ k * 64
  | 0 => by simp [lksN]
  | k + 1 => by
    rw [lksN_snoc, List.length_append]
    have := lksN_len J k
    have := nums_len64 (J k)
    have : (lkRow k (nums (J k))).length = (nums (J k)).length := by simp [lkRow]
    omega
theorem lks_len (J : Nat → Nat) : (lks J).length ≤ 4096 := lksN_len J 64
theorem mem_lksN {J : Nat → Nat} {k : Nat} {p : Int × Int} : p ∈ lksN J k ↔ ∃ a b : Nat, a < k ∧ b < 64 ∧ (J a).testBit b = true ∧ p = ((a : Int), (b : Int)) := by
  unfold lksN lkRow
  rw [List.mem_flatMap]
  constructor
  · rintro ⟨a, ha, hp⟩
    obtain ⟨b, hb, rfl⟩ := List.mem_map.1 hp
    exact ⟨a, b.val, List.mem_range.1 ha, b.isLt, (mem_nums _ _).1 hb, rfl⟩
  · rintro ⟨a, b, ha, hb, ht, rfl⟩
    exact ⟨a, List.mem_range.2 ha, List.mem_map.2 ⟨⟨b, hb⟩, (mem_nums _ _).2 ht, rfl⟩⟩
theorem mem_lks {J : Nat → Nat} (hw : Wf J) {p : Int × Int} : p ∈ lks J ↔ ∃ a b : Nat, E J a b ∧ p = ((a : Int), (b : Int)) := by
  unfold lks; rw [mem_lksN]
  constructor
  · rintro ⟨a, b, ha, _, ht, e⟩; exact ⟨a, b, ⟨ha, ht⟩, e⟩
  · rintro ⟨a, b, h, e⟩; exact ⟨a, b, h.1, h.lt hw, h.2, e⟩
/-- The order of pairs. -/
def ltP (p q : Int × Int) : Prop := p.1 < q.1 ∨ p.1 = q.1 ∧ p.2 < q.2
theorem lksN_sorted (J : Nat → Nat) : ∀ k, (lksN J k).Pairwise ltP
  | 0 => by simp [lksN]
  | k + 1 => by
    rw [lksN_snoc, List.pairwise_append]
    refine ⟨lksN_sorted J k, ?_, fun p hp q hq => ?_⟩
    · unfold lkRow
      rw [List.pairwise_map]
      exact (sorted_nums (J k)).imp fun {a b} h => .inr ⟨rfl, by have : a.val < b.val := h; simp; omega⟩
    · obtain ⟨a, b, ha, _, _, rfl⟩ := mem_lksN.1 hp
      obtain ⟨c, _, rfl⟩ := List.mem_map.1 hq
      exact .inl (by simp; omega)
theorem lks_sorted (J : Nat → Nat) : (lks J).Pairwise ltP := lksN_sorted J 64
end Go.Proofs.YtegpgjiccpglbaaDoor
