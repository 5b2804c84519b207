/- What comes ahead, by words; marks that a range leaves. -/
import Derived.Test.YtjimiabfgmchiaaDoorOPairs
import Derived.Test.YtjimiabfgmchiaaDoorAllMem
namespace Go.Proofs.YtjimiabfgmchiaaDoor
open Go.RowKit Go.Shelf
/-- What the first k rows lay into the words of what comes ahead. -/
def prP (S : Nat → Nat) (k b : Nat) : Nat := (List.range k).foldl (fun acc a => if (S a).testBit b = true then acc ||| 2 ^ a else acc) 0
theorem prP_zero (S : Nat → Nat) (b : Nat) : prP S 0 b = 0 := rfl
theorem prP_snoc (S : Nat → Nat) (k b : Nat) : prP S (k + 1) b = if (S k).testBit b = true then prP S k b ||| 2 ^ k else prP S k b := by
  unfold prP
  rw [List.range_succ, List.foldl_append]
  rfl
theorem prP_bits (S : Nat → Nat) (b a : Nat) : ∀ k, (prP S k b).testBit a = (decide (a < k) && (S a).testBit b)
  | 0 => by simp [prP_zero]
  | k + 1 => by
    rw [prP_snoc]
    have ih := prP_bits S b a k
    by_cases e : a = k
    · subst e
      have h0 : decide (a < a) = false := by simp
      rw [h0, Bool.false_and] at ih
      cases h : (S a).testBit b with
      | true => rw [if_pos rfl, Nat.testBit_or, ih, Nat.testBit_two_pow]; simp
      | false => rw [if_neg (by simp), ih]; simp
    · have hd : decide (a < k + 1) = decide (a < k) := by
        by_cases h : a < k
        · simp [h]; omega
        · simp [h]; omega
      have hp : (2 ^ k).testBit a = false := by rw [Nat.testBit_two_pow]; simp; omega
      cases h : (S k).testBit b with
      | true => rw [if_pos rfl, Nat.testBit_or, ih, hp, hd]; simp
      | false => rw [if_neg (by simp), ih, hd]
theorem prP_lt (S : Nat → Nat) {k : Nat} (hk : k ≤ 64) (b : Nat) : prP S k b < 18446744073709551616 :=
  small64 hk fun i hi => by
    rw [prP_bits] at hi
    simp only [Bool.and_eq_true, decide_eq_true_eq] at hi
    exact hi.1
/-- Row k under way. -/
def midP (S : Nat → Nat) (k : Nat) (pre : List (Fin 64)) (b : Nat) : Nat := if (pre.any fun j => j.val == b) = true then prP S k b ||| 2 ^ k else prP S k b
theorem midP_nil (S : Nat → Nat) (k b : Nat) : midP S k [] b = prP S k b := rfl
theorem midP_here (S : Nat → Nat) (k : Nat) (pre : List (Fin 64)) (j : Fin 64) : midP S k (pre ++ [j]) j.val = midP S k pre j.val ||| 2 ^ k := by
  unfold midP
  rw [if_pos (by simp)]
  split
  · rw [Nat.or_assoc, Nat.or_self]
  · rfl
theorem midP_other (S : Nat → Nat) (k : Nat) (pre : List (Fin 64)) (j : Fin 64) {i : Nat} (h : i ≠ j.val) : midP S k pre i = midP S k (pre ++ [j]) i := by
  unfold midP
  have : ((pre ++ [j]).any fun x => x.val == i) = (pre.any fun x => x.val == i) := by
    rw [List.any_append]
    have : (j.val == i) = false := by simp; omega
    simp [this]
  rw [this]
theorem midP_lt (S : Nat → Nat) {k : Nat} (hk : k < 64) (pre : List (Fin 64)) (b : Nat) : midP S k pre b < 18446744073709551616 := by
  unfold midP
  split
  · exact Nat.or_lt_two_pow (n := 64) (prP_lt S (by omega) b) (Nat.pow_lt_pow_right (by decide) hk)
  · exact prP_lt S (by omega) b
theorem midP_end (S : Nat → Nat) (k : Nat) {b : Nat} (hb : b < 64) : midP S k (nums (S k)) b = prP S (k + 1) b := by
  rw [prP_snoc]
  unfold midP
  have : ((nums (S k)).any fun j => j.val == b) = (S k).testBit b := by
    rw [Bool.eq_iff_iff, List.any_eq_true]
    constructor
    · rintro ⟨j, hj, e⟩
      rw [mem_nums] at hj
      have : j.val = b := by simpa using e
      rwa [this] at hj
    · intro h
      exact ⟨⟨b, hb⟩, (mem_nums _ _).2 h, by simp⟩
  rw [this]
/-- What a range leaves among the deferred calls. -/
def mark (D : Nat) : Deferred := { target := .collected D, args := #[] }
/-- Marks whose blocks hold no calls. -/
structure Marks (B : Nat) (Ds : List Nat) (W : World) : Prop where
  nd : Ds.Nodup
  ge : ∀ D ∈ Ds, B ≤ D
  at' : ∀ D ∈ Ds, W.heap[D]? = some (.deferred (some []))
theorem Marks.lt {B : Nat} {Ds : List Nat} {W : World} (h : Marks B Ds W) : ∀ D ∈ Ds, D < W.heap.size := fun D hD => (Array.getElem?_eq_some_iff.1 (h.at' D hD)).1
theorem Marks.nil (B : Nat) (W : World) : Marks B [] W := ⟨List.nodup_nil, fun D h => (by cases h), fun D h => (by cases h)⟩
theorem Marks.keeps {B : Nat} {Ds : List Nat} {W W' : World} (h : Marks B Ds W) (hk : KeepsOthers W W') : Marks B Ds W' := ⟨h.nd, h.ge, fun D hD => hk.same D _ (h.at' D hD) rfl⟩
theorem Marks.grown {B C : Nat} {Ds : List Nat} {W W' : World} {row : Option Nat} (h : Marks B Ds W) (hg : W.grownBy W' row) (hr : ∀ r, row = some r → C ≤ r) (hC : ∀ D ∈ Ds, D < C) : Marks B Ds W' :=
  ⟨h.nd, h.ge, fun D hD => (hg.block D (h.lt D hD) (fun e => by have := hr D e.symm; have := hC D hD; omega)).trans (h.at' D hD)⟩
theorem Marks.cons {B D : Nat} {Ds : List Nat} {W : World} (h : Marks B Ds W) (hD : W.heap[D]? = some (.deferred (some []))) (hB : B ≤ D) (hne : ∀ E ∈ Ds, E < D) : Marks B (D :: Ds) W := by
  refine ⟨List.nodup_cons.2 ⟨fun e => ?_, h.nd⟩, ?_, ?_⟩
  · have := hne D e; omega
  · intro E hE
    rcases List.mem_cons.1 hE with rfl | hE
    · exact hB
    · exact h.ge E hE
  · intro E hE
    rcases List.mem_cons.1 hE with rfl | hE
    · exact hD
    · exact h.at' E hE
/-- Blocks that are no cells may have been shut. -/
def ShutTo (B : Nat) (W W' : World) : Prop := Below B W W' ∧ ∀ (b : Nat) (o : Obj), W.heap[b]? = some o → o.isCells = true → W'.heap[b]? = some o
theorem leaves_marks {n : Nat} {P : Program} {fn : Func} {tmps : Array Value} {R : Ending → World → Prop} {w : World} : ∀ (Ds : List Nat) (W : World), Marks w.heap.size Ds W →
    (∀ W', ShutTo w.heap.size W W' → LeavesInM Fence.wide n P fn tmps R [] .returning W') → LeavesInM Fence.wide n P fn tmps R (Ds.map mark) .returning W
  | [], W, _, h => h W ⟨Below.refl _ _, fun _ _ h _ => h⟩
  | D :: Ds, W, hm, h => by
    have hK := hm.at' D (by simp)
    refine ⟨by simp, .inl ⟨D, _, rfl, run_takeDeferred hK, ?_⟩⟩
    have hb : Below w.heap.size W (W.putObj D (.deferred none)) := belowK_b (w := w) (Nat.le_refl _) W D _ _ (hm.ge D (by simp)) hK rfl rfl
    have hnd := List.nodup_cons.1 hm.nd
    refine leaves_marks Ds _ ⟨hnd.2, fun E hE => hm.ge E (by simp [hE]), fun E hE => ?_⟩ fun W' hW' => h W' ⟨hb.trans hW'.1, fun b o ho hc => hW'.2 b o ?_ hc⟩
    · have hne : E ≠ D := fun e => hnd.1 (by rw [← e]; exact hE)
      rw [World.putObj_heap_other hne]
      exact hm.at' E (by simp [hE])
    · have hne : b ≠ D := fun e => by subst e; rw [hK] at ho; cases ho; cases hc
      rw [World.putObj_heap_other hne]; exact ho
end Go.Proofs.YtjimiabfgmchiaaDoor
