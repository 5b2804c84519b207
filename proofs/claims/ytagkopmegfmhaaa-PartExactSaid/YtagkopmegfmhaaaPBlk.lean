/- Blocks: rows within a row, each of its own. -/
import Derived.Test.YtagkopmegfmhaaaPMeet
import Derived.Deep.AppendLies
import Derived.Lib.OwnKind
namespace Go.Proofs.Ytagkopmegfmhaaa
open Go.RowKit
theorem infoL : (Try.prog.info? 22).map (fun i => (i.zero, i.size, i.bytes)) = some (some (.slice none 0 0), 1, 24) := by kernel_rfl
/-- The places of a block. -/
def plc (l : List Nat) (b : Nat) : List Nat := (List.range l.length).filter fun i => l[i]? == some b
theorem plc_snoc (l : List Nat) (x b : Nat) : plc (l ++ [x]) b = plc l b ++ (if x = b then [l.length] else []) := by
  unfold plc
  rw [List.length_append, List.length_singleton, List.range_succ, List.filter_append]
  congr 1
  · exact List.filter_congr fun i hi => by rw [List.getElem?_append_left (List.mem_range.1 hi)]
  · by_cases h : x = b <;> simp [h]
theorem plc_len (l : List Nat) (b : Nat) : (plc l b).length ≤ l.length := by
  have h := List.length_filter_le (fun i => l[i]? == some b) (List.range l.length)
  rwa [List.length_range] at h
/-- A row of rows, all in memory of their own. -/
structure Tab (B : Nat) (w : World) (gt m : Nat) (vs : List Value) (rows : Nat → List Nat) : Prop where
  outer : w.ownsRow B 22 1 (.slice (some ⟨gt, 0, none⟩) m m) m vs
  inner : ∀ j v, vs[j]? = some v → w.ownsRow B 3 1 v (rows j).length (cellsI (ints (rows j)))
  dist : ∀ (j k : Nat) (v u : Value) (b : Nat), vs[j]? = some v → vs[k]? = some u → v.ownBlock = some b → u.ownBlock = some b → j = k
theorem own_lt {w : World} {B : Nat} {e : TypeId} {size : Nat} {v : Value} {n : Nat} {xs : List Value} (h : w.ownsRow B e size v n xs) {g : Nat} (hg : v.ownBlock = some g) : g < w.heap.size := by
  obtain ⟨_, _, h1⟩ := Go.Lib.ownsRow_kind h g hg
  exact (Array.getElem?_eq_some_iff.1 h1).1
theorem own_ge {w : World} {B : Nat} {e : TypeId} {size : Nat} {v : Value} {n : Nat} {xs : List Value} (h : w.ownsRow B e size v n xs) {g : Nat} (hg : v.ownBlock = some g) : B ≤ g := by
  rcases h.2 with ⟨rfl, _⟩ | ⟨g', cap, cur, rfl, hb, _⟩
  · cases hg
  · cases hg; exact hb
section
variable {B : Nat} {w : World} {gt m : Nat} {vs : List Value} {rows : Nat → List Nat}
theorem Tab.len (h : Tab B w gt m vs rows) : vs.length = m := by have := h.outer.1; omega
theorem Tab.ne (h : Tab B w gt m vs rows) {j : Nat} {v : Value} (hv : vs[j]? = some v) : v.ownBlock ≠ some gt := by
  intro e
  obtain ⟨c1, f1, h1⟩ := Go.Lib.ownsRow_kind (h.inner j v hv) gt e
  obtain ⟨c2, f2, h2⟩ := Go.Lib.ownsRow_kind h.outer gt rfl
  rw [h1] at h2
  simp at h2
theorem Tab.alloc (h : Tab B w gt m vs rows) (o : Obj) : Tab B (w.alloc o) gt m vs rows := ⟨h.outer.alloc o, fun j v hv => (h.inner j v hv).alloc o, h.dist⟩
theorem Tab.step (h : Tab B w gt m vs rows) {b : Nat} {v : Value} {g cap x : Nat} {w2 : World} (hb : b < m) (hv : vs[b]? = some v)
    (hown : w2.ownsRow B 3 1 (.slice (some ⟨g, 0, none⟩) ((rows b).length + 1) cap) ((rows b).length + 1) (cellsI (ints (rows b)) ++ [.int .i64 (x : Int)])) (hg : w.grownBy w2 v.ownBlock) (hat : v.ownBlock = some g ∨ g = w.heap.size) :
    Tab B (w2.setCell ⟨gt, b, none⟩ (.slice (some ⟨g, 0, none⟩) ((rows b).length + 1) cap)) gt m (vs.set b (.slice (some ⟨g, 0, none⟩) ((rows b).length + 1) cap)) (fun j => if j = b then rows b ++ [x] else rows j) := by
  have hO2 := h.outer.kept hg (.inr fun e => h.ne hv e.symm)
  obtain ⟨hO3, hG3⟩ := hO2.stored b (.slice (some ⟨g, 0, none⟩) ((rows b).length + 1) cap)
  have hlt : gt < w.heap.size := own_lt h.outer rfl
  have hgt : g ≠ gt := by
    rcases hat with e | e
    · intro e2; exact h.ne hv (e2 ▸ e)
    · omega
  have hlen := h.len
  have far : ∀ j u, vs[j]? = some u → u.ownBlock = some g → j = b := fun j u hj hu => by
    rcases hat with e | e
    · exact h.dist j b u v g hj hv hu e
    · have := own_lt (h.inner j u hj) hu; omega
  refine ⟨hO3, fun j v' hj => ?_, fun j k v1 u1 q hj hk h1 h2 => ?_⟩
  · rw [List.getElem?_set] at hj
    by_cases e : b = j
    · subst e
      rw [if_pos rfl, if_pos (by omega)] at hj
      cases hj
      rw [if_pos rfl, List.length_append, cellsI_snoc]
      exact hown.kept hG3 (.inr (by simpa [Value.ownBlock] using hgt))
    · rw [if_neg e] at hj
      rw [if_neg (Ne.symm e)]
      refine ((h.inner j v' hj).kept hg ?_).kept hG3 (.inr (h.ne hj))
      cases hq : v'.ownBlock with
      | none => exact .inl rfl
      | some q => exact .inr fun e2 => e (h.dist b j v v' q hv hj e2.symm hq)
  · rw [List.getElem?_set] at hj hk
    by_cases ej : b = j
    · by_cases ek : b = k
      · omega
      · rw [if_neg ek] at hk
        rw [if_pos ej, if_pos (by omega)] at hj
        cases hj
        cases h1
        exact absurd (far k u1 hk h2).symm ek
    · rw [if_neg ej] at hj
      by_cases ek : b = k
      · rw [if_pos ek, if_pos (by omega)] at hk
        cases hk
        cases h2
        exact absurd (far j v1 hj h1).symm ej
      · rw [if_neg ek] at hk
        exact h.dist j k v1 u1 q hj hk h1 h2
theorem Tab.congr {rows' : Nat → List Nat} (h : Tab B w gt m vs rows) (e : ∀ j, j < m → rows j = rows' j) : Tab B w gt m vs rows' := by
  refine ⟨h.outer, fun j v hj => ?_, h.dist⟩
  obtain ⟨hlt, _⟩ := List.getElem?_eq_some_iff.1 hj
  have hlen := h.len
  rw [← e j (by omega)]
  exact h.inner j v hj
end
end Go.Proofs.Ytagkopmegfmhaaa
