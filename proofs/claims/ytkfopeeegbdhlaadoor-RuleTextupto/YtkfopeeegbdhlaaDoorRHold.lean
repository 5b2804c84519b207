/- Holds, Broken, wakes: what they answer. -/
import Derived.Test.YtkfopeeegbdhlaaDoorREarly
namespace Go.Proofs.YtkfopeeegbdhlaaDoor
open Go.RowKit
set_option maxRecDepth 100000 in
set_option maxHeartbeats 1000000 in
theorem holdsF (r : Rl) (sv lv : Value) (L : List Int) (w : World) (hs : RowI w sv r.steps) (hl : RowI w lv L) (hm : r.steps.length ≤ 1000) :
    Calls Tryd.prog 13 #[rv r sv, lv] w fun e w' => e = .returned (.bool (holds r L)) ∧ Below w.heap.size w w' := by
  have KE : Hid (∀ W, Below w.heap.size w W → Calls Tryd.prog 21 #[rv r sv, .int .i64 L.length, lv] W fun e w' => e = .returned (.bool (holds r L)) ∧ Below W.heap.size W w') := fun W hW => earlyF r L.length sv lv L W (hs.below hW (Nat.le_refl _)) (hl.below hW (Nat.le_refl _)) hm
  obtain ⟨oa, ca, rfl, _, _⟩ := hs
  obtain ⟨ob, cb, rfl, _, _⟩ := hl
  unfold rv at KE ⊢
  have hB : Hid (Below w.heap.size w (w.alloc (.cells #[.int .i64 r.kind, .int .i64 r.k, .slice oa r.steps.length ca] 32))) := (Below.refl _ w).alloc (Nat.le_refl _) _
  go_enter Tryd.func13, Tryd.ntmps13
  go_wp2_with (go_at_call 21; refine (KE.out _ hB.out).mono ?_; rintro e w1 ⟨rfl, hb1⟩)
  go_ret
  exact ⟨rfl, hB.out.trans (hb1.mono hB.out.size)⟩
/-- The places, up to c, of the rules that are broken. -/
def brk (R : List Rl) (L : List Int) (c : Nat) : List Nat := (List.range c).filter fun i => match R[i]? with | some r => !holds r L | none => false
theorem brk_all (R : List Rl) (L : List Int) : broken R L = brk R L R.length := rfl
theorem brk_snoc (R : List Rl) (L : List Int) {c : Nat} {r : Rl} (h : R[c]? = some r) : brk R L (c + 1) = brk R L c ++ if holds r L then [] else [c] := by
  unfold brk
  rw [List.range_succ, List.filter_append]
  congr 1
  rw [List.filter_cons, h]
  cases hh : holds r L <;> simp [hh]
theorem brk_len (R : List Rl) (L : List Int) (c : Nat) : (brk R L c).length ≤ c := by
  refine Nat.le_trans (List.length_filter_le _ _) ?_
  simp
theorem rowL (w : World) (cs : Array Value) (l : List Int) (h : cs.toList = cellsI l) : RowI (w.alloc (.cells cs 3)) (.slice (some ⟨w.heap.size, 0, none⟩) l.length l.length) l := by
  refine ⟨_, _, rfl, ⟨Nat.le_refl _, fun e => by cases e⟩, fun i z hz => ⟨w.heap.size, 0, rfl, ?_⟩⟩
  have : cs[i]? = some (Value.int .i64 z) := by
    rw [← Array.getElem?_toList, h]
    simp [cellsI, hz]
  have e : (w.alloc (.cells cs 3)).heap[w.heap.size]? = some (.cells cs 3) := heap_new w _
  rw [Nat.zero_add, World.cell?]
  show (match (w.alloc (.cells cs 3)).heap[w.heap.size]? with | some (.cells c _ _) => c[i]? | _ => none) = _
  rw [e]
  exact this
set_option maxRecDepth 100000 in
set_option maxHeartbeats 2000000 in
theorem wakesR (w : World) : Calls Tryd.prog 8 #[] w fun e w' => e = .returned (.bool true) ∧ Below w.heap.size w w' := by
  have hs0 : Hid (RowI (w.alloc (.cells #[.int .i64 0, .int .i64 2] 3)) (.slice (some ⟨w.heap.size, 0, none⟩) 2 2) [0, 2]) := rowL w #[.int .i64 0, .int .i64 2] [0, 2] rfl
  have hB0 : Hid (Below w.heap.size w (w.alloc (.cells #[.int .i64 0, .int .i64 2] 3))) := (Below.refl _ w).alloc (Nat.le_refl _) _
  have KC : Hid (∀ W, Below (w.alloc (.cells #[.int .i64 0, .int .i64 2] 3)).heap.size (w.alloc (.cells #[.int .i64 0, .int .i64 2] 3)) W → Calls Tryd.prog 9 #[.int .i64 3, rv ⟨1, 0, [0, 2]⟩ (.slice (some ⟨w.heap.size, 0, none⟩) 2 2)] W fun e w' => e = .returned (.int .i64 0) ∧ Below W.heap.size W w') := fun W hW => by
    have := checkF 3 ⟨1, 0, [0, 2]⟩ _ W (hs0.out.below hW (Nat.le_refl _)) (by decide)
    rwa [show erC (chk 3 ⟨1, 0, [0, 2]⟩) = 0 by decide] at this
  have KH : Hid (∀ W l v b, RowI W v l → Below (w.alloc (.cells #[.int .i64 0, .int .i64 2] 3)).heap.size (w.alloc (.cells #[.int .i64 0, .int .i64 2] 3)) W → holds ⟨1, 0, [0, 2]⟩ l = b → Calls Tryd.prog 13 #[rv ⟨1, 0, [0, 2]⟩ (.slice (some ⟨w.heap.size, 0, none⟩) 2 2), v] W fun e w' => e = .returned (.bool b) ∧ Below W.heap.size W w') := fun W l v b hl hW hb => by
    have := holdsF ⟨1, 0, [0, 2]⟩ _ v l W (hs0.out.below hW (Nat.le_refl _)) hl (by decide)
    rwa [hb] at this
  unfold rv at KC KH
  have h1 : Hid (holds ⟨1, 0, [0, 2]⟩ [5, 7, 6] = true) := by show _ = _; decide
  have h2 : Hid (holds ⟨1, 0, [0, 2]⟩ [5, 7, 5] = false) := by show _ = _; decide
  have hB1 : Hid (Below (w.alloc (.cells #[.int .i64 0, .int .i64 2] 3)).heap.size (w.alloc (.cells #[.int .i64 0, .int .i64 2] 3)) ((w.alloc (.cells #[.int .i64 0, .int .i64 2] 3)).alloc (.cells #[.int .i64 1, .int .i64 0, .slice (some ⟨w.heap.size, 0, none⟩) 2 2] 32))) := (Below.refl _ _).alloc (Nat.le_refl _) _
  have hbx : Hid (∀ W, Below ((w.alloc (.cells #[.int .i64 0, .int .i64 2] 3)).alloc (.cells #[.int .i64 1, .int .i64 0, .slice (some ⟨w.heap.size, 0, none⟩) 2 2] 32)).heap.size ((w.alloc (.cells #[.int .i64 0, .int .i64 2] 3)).alloc (.cells #[.int .i64 1, .int .i64 0, .slice (some ⟨w.heap.size, 0, none⟩) 2 2] 32)) W → W.cell? ⟨w.heap.size + 1, 0, none⟩ = some (.int .i64 1) ∧ W.cell? ⟨w.heap.size + 1, 1, none⟩ = some (.int .i64 0) ∧ W.cell? ⟨w.heap.size + 1, 2, none⟩ = some (.slice (some ⟨w.heap.size, 0, none⟩) 2 2)) := fun W hW => by
    have e : W.heap[w.heap.size + 1]? = some (.cells #[.int .i64 1, .int .i64 0, .slice (some ⟨w.heap.size, 0, none⟩) 2 2] 32) := by
      rw [hW.block _ (by simp)]
      have := heap_new (w.alloc (.cells #[.int .i64 0, .int .i64 2] 3)) (.cells #[.int .i64 1, .int .i64 0, .slice (some ⟨w.heap.size, 0, none⟩) 2 2] 32)
      rwa [World.size_alloc] at this
    simp [World.cell?, e]
  clear hs0
  go_enter Tryd.func8, Tryd.ntmps8
  go_wp2_with fail
  refine (KC.out _ hB1.out).mono ?_
  rintro e w1 ⟨rfl, hb1'⟩
  have hb1 := hide' hb1'
  obtain ⟨x0, x1, x2⟩ := hbx.out _ hb1'
  have hB2 : Hid (Below (w.alloc (.cells #[.int .i64 0, .int .i64 2] 3)).heap.size (w.alloc (.cells #[.int .i64 0, .int .i64 2] 3)) (w1.alloc (.cells #[.int .i64 5, .int .i64 7, .int .i64 6] 3))) := (hB1.out.trans (hb1'.mono hB1.out.size)).alloc (Nat.le_trans hB1.out.size hb1'.size) _
  clear hb1'
  go_wp2_with fail
  refine (KH.out _ [5, 7, 6] _ true (rowL w1 #[.int .i64 5, .int .i64 7, .int .i64 6] [5, 7, 6] rfl) hB2.out h1.out).mono ?_
  rintro e w2 ⟨rfl, hb2'⟩
  have hbb : Hid (Below ((w.alloc (.cells #[.int .i64 0, .int .i64 2] 3)).alloc (.cells #[.int .i64 1, .int .i64 0, .slice (some ⟨w.heap.size, 0, none⟩) 2 2] 32)).heap.size ((w.alloc (.cells #[.int .i64 0, .int .i64 2] 3)).alloc (.cells #[.int .i64 1, .int .i64 0, .slice (some ⟨w.heap.size, 0, none⟩) 2 2] 32)) w2) := (hb1.out.alloc hb1.out.size _).trans (hb2'.mono (hb1.out.alloc hb1.out.size _).size)
  obtain ⟨y0, y1, y2⟩ := hbx.out _ hbb.out
  have hB3 : Hid (Below (w.alloc (.cells #[.int .i64 0, .int .i64 2] 3)).heap.size (w.alloc (.cells #[.int .i64 0, .int .i64 2] 3)) (w2.alloc (.cells #[.int .i64 5, .int .i64 7, .int .i64 5] 3))) := (hB2.out.trans (hb2'.mono hB2.out.size)).alloc (Nat.le_trans hB2.out.size hb2'.size) _
  clear hb2' x0 x1 x2
  go_wp2_with fail
  refine (KH.out _ [5, 7, 5] _ false (rowL w2 #[.int .i64 5, .int .i64 7, .int .i64 5] [5, 7, 5] rfl) hB3.out h2.out).mono ?_
  rintro e w3 ⟨rfl, hb3'⟩
  clear hbx KC KH
  go_wp2
  go_ret
  exact ⟨rfl, hB0.out.trans ((hB3.out.trans (hb3'.mono hB3.out.size)).mono hB0.out.size)⟩
end Go.Proofs.YtkfopeeegbdhlaaDoor
