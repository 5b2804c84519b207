/- agenda: entries in a row of pointers; compare, Less: what they answer. -/
import Derived.Test.YtmjdecgijnodhaaGMath
import Derived.WalkKit
import Derived.WalkSpells
import Derived.WalkLawsBesides
import Derived.BigRegion
import Derived.OwnWalk
import Derived.Deep.AppendLies
import Derived.Deep.RegionHeld3
import Derived.Lib.OwnKind
namespace Go.Proofs.Ytmjdecgijnodhaa
open Go.RowKit
theorem hide' {p : Prop} (h : p) : Hid p := h
theorem ret_bool {a b : Bool} (h : a = b) : Ending.returned (.bool a) = .returned (.bool b) := by rw [h]
theorem ret_int {k : IntKind} {a b : Int} (h : a = b) : Ending.returned (.int k a) = .returned (.int k b) := by rw [h]
theorem cell_lt {W : World} {b o : Nat} {v : Value} (h : W.cell? ⟨b, o, none⟩ = some v) : b < W.heap.size := by
  rcases Nat.lt_or_ge b W.heap.size with h1 | h1
  · exact h1
  · rw [World.cell?, show W.heap[b]? = none from Array.getElem?_eq_none h1] at h; cases h
theorem cell_over {W W' : World} {b o : Nat} {v : Value} (h : W.cell? ⟨b, o, none⟩ = some v) (hb : Below W.heap.size W W') : W'.cell? ⟨b, o, none⟩ = some v := (hb.cell (p := ⟨b, o, none⟩) (cell_lt h)).trans h
/-- -1, 0 or 1. -/
def cmpI (a b : Int) : Int := if a < b then -1 else if b < a then 1 else 0
def orI (p q : Int) : Int := if p = 0 then q else p
theorem cmp_lt (x y : Ent) : orI (cmpI x.tm y.tm) (cmpI x.turn y.turn) < 0 ↔ ltE x y := by
  unfold orI cmpI ltE
  by_cases h1 : x.tm < y.tm
  · simp [h1]
  · by_cases h2 : y.tm < x.tm
    · simp [h1, h2]; omega
    · have e : x.tm = y.tm := by omega
      by_cases h3 : x.turn < y.turn
      · simp [h3, e]
      · by_cases h4 : y.turn < x.turn
        · simp [h1, h2, h3, h4]
        · simp [h1, h2, h3, h4]
theorem cmp_bound (a b : Int) : -1 ≤ cmpI a b ∧ cmpI a b ≤ 1 := by unfold cmpI; split <;> (try split) <;> omega
set_option maxHeartbeats 1000000 in
theorem compareI (a b : Int) (w : World) : Calls Try.prog 33 #[.int .i64 a, .int .i64 b] w fun e w' => e = .returned (.int .i64 (cmpI a b)) ∧ w' = w := by
  by_cases h1 : a < b
  · have hr : Hid (cmpI a b = -1) := if_pos h1
    go_enter Try.func33, Try.ntmps33
    go_wp2
    go_ret
    exact ⟨ret_int hr.out.symm, rfl⟩
  · by_cases h2 : b < a
    · have hr : Hid (cmpI a b = 1) := by show _ = _; unfold cmpI; rw [if_neg h1, if_pos h2]
      go_enter Try.func33, Try.ntmps33
      go_wp2
      go_ret
      exact ⟨ret_int hr.out.symm, rfl⟩
    · have hr : Hid (cmpI a b = 0) := by show _ = _; unfold cmpI; rw [if_neg h1, if_neg h2]
      go_enter Try.func33, Try.ntmps33
      go_wp2
      go_ret
      exact ⟨ret_int hr.out.symm, rfl⟩
set_option maxRecDepth 100000 in
set_option maxHeartbeats 1000000 in
theorem orT (p q : Int) (g : Nat) (w : World) (c0 : w.cell? ⟨g, 0, none⟩ = some (.int .i64 p)) (c1 : w.cell? ⟨g, 1, none⟩ = some (.int .i64 q)) :
    Calls Try.prog 32 #[.slice (some ⟨g, 0, none⟩) 2 2] w fun e w' => e = .returned (.int .i64 (orI p q)) ∧ w' = w := by
  by_cases hp : p = 0
  · subst hp
    have hr : Hid (orI 0 q = q) := if_pos rfl
    by_cases hq : q = 0
    · subst hq
      go_enter Try.func32, Try.ntmps32
      go_wp2
      go_loop [8] (fun k => k = .int .i64 0 ∨ k = .int .i64 1 ∨ k = .int .i64 2) (fun k => (2 - intOf k).toNat)
      case atStart => exact .inl rfl
      case round =>
        rcases hrel with rfl | rfl | rfl
        · go_wp2
          exact ⟨.inr (.inl (by go_num)), by simp [intOf]⟩
        · go_wp2
          exact ⟨.inr (.inr (by go_num)), by simp [intOf]⟩
        · go_wp2
          go_ret
          exact ⟨ret_int hr.out.symm, rfl⟩
    · have hqb : (q != 0) = true := by simpa using hq
      go_enter Try.func32, Try.ntmps32
      go_wp2
      go_loop [8] (fun k => k = .int .i64 0 ∨ k = .int .i64 1) (fun k => (2 - intOf k).toNat)
      case atStart => exact .inl rfl
      case round =>
        rcases hrel with rfl | rfl
        · go_wp2
          exact ⟨.inr (by go_num), by simp [intOf]⟩
        · go_wp2
          go_ret
          exact ⟨ret_int hr.out.symm, rfl⟩
  · have hr : Hid (orI p q = p) := if_neg hp
    have hpb : (p != 0) = true := by simpa using hp
    go_enter Try.func32, Try.ntmps32
    go_wp2
    go_loop [8] (fun k => k = .int .i64 0) (fun _ => 0)
    case atStart => rfl
    case round =>
      obtain rfl := hrel
      go_wp2
      go_ret
      exact ⟨ret_int hr.out.symm, rfl⟩
theorem keepE {W0 W w1 : World} {b1 b2 : Nat} {u1 u2 u3 u4 : Value} (h : W.cell? ⟨b1, 1, none⟩ = some u1 ∧ W.cell? ⟨b2, 1, none⟩ = some u2 ∧ W.cell? ⟨b1, 2, none⟩ = some u3 ∧ W.cell? ⟨b2, 2, none⟩ = some u4 ∧ Below W0.heap.size W0 W) (hb : Below W.heap.size W w1) :
    w1.cell? ⟨b1, 1, none⟩ = some u1 ∧ w1.cell? ⟨b2, 1, none⟩ = some u2 ∧ w1.cell? ⟨b1, 2, none⟩ = some u3 ∧ w1.cell? ⟨b2, 2, none⟩ = some u4 ∧ Below W0.heap.size W0 w1 :=
  ⟨cell_over h.1 hb, cell_over h.2.1 hb, cell_over h.2.2.1 hb, cell_over h.2.2.2.1 hb, h.2.2.2.2.trans (hb.mono h.2.2.2.2.size)⟩
set_option maxRecDepth 100000 in
set_option maxHeartbeats 4000000 in
theorem compareE (x y : Ent) (p q : Nat) (w : World) (a1 : w.cell? ⟨p, 1, none⟩ = some (.int .i64 x.tm)) (a2 : w.cell? ⟨q, 1, none⟩ = some (.int .i64 y.tm)) (a3 : w.cell? ⟨p, 2, none⟩ = some (.int .i64 x.turn)) (a4 : w.cell? ⟨q, 2, none⟩ = some (.int .i64 y.turn)) :
    Calls Try.prog 24 #[.pointer (some ⟨p, 0, none⟩), .pointer (some ⟨q, 0, none⟩)] w fun e w' => e = .returned (.int .i64 (orI (cmpI x.tm y.tm) (cmpI x.turn y.turn))) ∧ Below w.heap.size w w' := by
  have K1 : Hid (∀ W, Calls Try.prog 33 #[.int .i64 x.tm, .int .i64 y.tm] W fun e w' => e = .returned (.int .i64 (cmpI x.tm y.tm)) ∧ Below W.heap.size W w') := fun W => (compareI _ _ W).mono fun e w' ⟨h, hw⟩ => ⟨h, by rw [hw]; exact Below.refl _ _⟩
  have K2 : Hid (∀ W, Calls Try.prog 33 #[.int .i64 x.turn, .int .i64 y.turn] W fun e w' => e = .returned (.int .i64 (cmpI x.turn y.turn)) ∧ Below W.heap.size W w') := fun W => (compareI _ _ W).mono fun e w' ⟨h, hw⟩ => ⟨h, by rw [hw]; exact Below.refl _ _⟩
  generalize cmpI x.tm y.tm = c1 at *
  generalize cmpI x.turn y.turn = c2 at *
  generalize x.tm = xt at *
  generalize y.tm = yt at *
  generalize x.turn = xn at *
  generalize y.turn = yn at *
  have KO : Hid (∀ W : World, Calls Try.prog 32 #[.slice (some ⟨W.heap.size, 0, none⟩) 2 2] (W.alloc (.cells #[.int .i64 c1, .int .i64 c2] 3)) fun e w' => e = .returned (.int .i64 (orI c1 c2)) ∧ Below (W.alloc (.cells #[.int .i64 c1, .int .i64 c2] 3)).heap.size (W.alloc (.cells #[.int .i64 c1, .int .i64 c2] 3)) w') := fun W => (orT c1 c2 W.heap.size _ (by simp) (by simp)).mono fun e w' ⟨h, hw⟩ => ⟨h, by rw [hw]; exact Below.refl _ _⟩
  have hi0 : Hid (w.drew.cell? ⟨p, 1, none⟩ = some (.int .i64 xt) ∧ w.drew.cell? ⟨q, 1, none⟩ = some (.int .i64 yt) ∧ w.drew.cell? ⟨p, 2, none⟩ = some (.int .i64 xn) ∧ w.drew.cell? ⟨q, 2, none⟩ = some (.int .i64 yn) ∧ Below w.heap.size w w.drew) := ⟨a1, a2, a3, a4, (Below.refl _ _).drew⟩
  go_enter Try.func24, Try.ntmps24
  go_wp2
  go_region_held3 (fun V => V.cell? ⟨p, 1, none⟩ = some (.int .i64 xt) ∧ V.cell? ⟨q, 1, none⟩ = some (.int .i64 yt) ∧ V.cell? ⟨p, 2, none⟩ = some (.int .i64 xn) ∧ V.cell? ⟨q, 2, none⟩ = some (.int .i64 yn) ∧ Below w.heap.size w V) (first | (exact keepE (by assumption) hb) | (exact keepE hi0.out hb) | (exact keepE (by assumption) ((Below.refl _ _).alloc (Nat.le_refl _) _)) | (exact hi0.out)) (first | (go_at_call_of 33 (Value.int IntKind.i64 xt); refine (K1.out _).mono ?_; rintro e w1 ⟨rfl, hb⟩) | (go_at_call_of 33 (Value.int IntKind.i64 xn); refine (K2.out _).mono ?_; clear hb; rintro e w2 ⟨rfl, hb⟩) | (go_at_call 32; refine (KO.out _).mono ?_; clear hb; rintro e w3 ⟨rfl, hb⟩))
  go_wp2
  go_ret
  exact ⟨rfl, ‹_ ∧ _ ∧ _ ∧ _ ∧ Below w.heap.size w w3›.2.2.2.2⟩
/-- The pointers of a row. -/
def ptrs (h : Nat → Nat × Ent) (n : Nat) : List Value := (List.range n).map fun k => .pointer (some ⟨(h k).1, 0, none⟩)
theorem ptrs_len (h : Nat → Nat × Ent) (n : Nat) : (ptrs h n).length = n := by simp [ptrs]
theorem ptrs_at (h : Nat → Nat × Ent) {n k : Nat} (hk : k < n) : (ptrs h n)[k]? = some (.pointer (some ⟨(h k).1, 0, none⟩)) := by simp [ptrs, hk]
theorem ptrs_set (h h' : Nat → Nat × Ent) {n i : Nat} (hi : ∀ k, k < n → k ≠ i → (h' k).1 = (h k).1) : (ptrs h n).set i (.pointer (some ⟨(h' i).1, 0, none⟩)) = ptrs h' n := by
  apply List.ext_getElem?
  intro k
  rw [List.getElem?_set, ptrs_len]
  by_cases hk : k < n
  · rw [ptrs_at h' hk]
    by_cases e : i = k
    · subst e; rw [if_pos rfl, if_pos hk]
    · rw [if_neg e, ptrs_at h hk, hi k hk (Ne.symm e)]
  · have e1 : (ptrs h' n)[k]? = none := List.getElem?_eq_none (by rw [ptrs_len]; omega)
    have e2 : (ptrs h n)[k]? = none := List.getElem?_eq_none (by rw [ptrs_len]; omega)
    rw [e1, e2]
    by_cases e : i = k
    · subst e; rw [if_pos rfl, if_neg hk]
    · rw [if_neg e]
theorem ptrs_snoc (h : Nat → Nat × Ent) (n : Nat) : ptrs h (n + 1) = ptrs h n ++ [.pointer (some ⟨(h n).1, 0, none⟩)] := by
  unfold ptrs; rw [List.range_succ]; simp
theorem ptrs_congr (h h' : Nat → Nat × Ent) (n : Nat) (e : ∀ k, k < n → h' k = h k) : ptrs h' n = ptrs h n := by
  unfold ptrs
  exact List.map_congr_left fun k hk => by rw [e k (List.mem_range.1 hk)]
/-- An entry's block. -/
def EntAt (w : World) (p : Nat) (e : Ent) (k : Nat) : Prop := w.heap[p]? = some (.cells #[.int .i64 e.id, .int .i64 e.tm, .int .i64 e.turn, .int .i64 (k : Int)] 64 (0, 0))
section
variable {w w' : World} {p k : Nat} {e : Ent}
theorem EntAt.c0 (h : EntAt w p e k) : w.cell? ⟨p, 0, none⟩ = some (.int .i64 e.id) := by unfold EntAt at h; simp [World.cell?, h]
theorem EntAt.c1 (h : EntAt w p e k) : w.cell? ⟨p, 1, none⟩ = some (.int .i64 e.tm) := by unfold EntAt at h; simp [World.cell?, h]
theorem EntAt.c2 (h : EntAt w p e k) : w.cell? ⟨p, 2, none⟩ = some (.int .i64 e.turn) := by unfold EntAt at h; simp [World.cell?, h]
theorem EntAt.c3 (h : EntAt w p e k) : w.cell? ⟨p, 3, none⟩ = some (.int .i64 (k : Int)) := by unfold EntAt at h; simp [World.cell?, h]
theorem EntAt.fz (h : EntAt w p e k) (o : Nat) : w.frozen? ⟨p, o, none⟩ = false := frozen_of_row w p o _ _ h
theorem EntAt.s3 (h : EntAt w p e k) (j : Nat) : EntAt (w.setCell ⟨p, 3, none⟩ (.int .i64 (j : Int))) p e j := by
  have := heap_setCell_same w p 3 _ _ (.int .i64 (j : Int)) h; simpa [EntAt] using this
theorem EntAt.lt (h : EntAt w p e k) : p < w.heap.size := (Array.getElem?_eq_some_iff.1 h).1
theorem EntAt.same (h : EntAt w p e k) (hs : w'.heap[p]? = w.heap[p]?) : EntAt w' p e k := hs.trans h
end
/-- The heap: a row of pointers to entries, each of which knows its place. -/
structure Hp (w : World) (n : Nat) (h : Nat → Nat × Ent) (rowv : Value) : Prop where
  row : w.ownsRow 0 57 1 rowv n (ptrs h n)
  ent : ∀ k, k < n → EntAt w (h k).1 (h k).2 k
  inj : ∀ k l, k < n → l < n → (h k).1 = (h l).1 → k = l
theorem owns_same {w w' : World} {b : Nat} {e : TypeId} {size : Nat} {v : Value} {n : Nat} {xs : List Value} (h : w.ownsRow b e size v n xs) (hs : ∀ g, g < w.heap.size → v.ownBlock = some g → w'.heap[g]? = w.heap[g]?) : w'.ownsRow b e size v n xs := by
  refine ⟨h.1, ?_⟩
  rcases h.2 with hn | ⟨g, cap, cur, rfl, hb, hgg, rest⟩
  · exact .inl hn
  · refine .inr ⟨g, cap, cur, rfl, hb, ?_, rest⟩
    rw [hs g (Array.getElem?_eq_some_iff.1 hgg).1 rfl]
    exact hgg
theorem Hp.below {w w' : World} {n : Nat} {h : Nat → Nat × Ent} {rowv : Value} (H : Hp w n h rowv) (hb : Below w.heap.size w w') : Hp w' n h rowv :=
  ⟨owns_same H.row fun g hg _ => hb.block g hg, fun k hk => (H.ent k hk).same (hb.block _ (H.ent k hk).lt), H.inj⟩
/-- The row's block is no entry's. -/
theorem Hp.far {w : World} {n : Nat} {h : Nat → Nat × Ent} {rowv : Value} (H : Hp w n h rowv) {k : Nat} (hk : k < n) : rowv.ownBlock ≠ some (h k).1 := by
  intro e
  obtain ⟨c1, f1, h1⟩ := Go.Lib.ownsRow_kind H.row _ e
  have h2 := H.ent k hk
  unfold EntAt at h2
  rw [h1] at h2
  simp at h2
theorem keepL {W0 W w1 : World} {b i j : Nat} {u1 u2 : Value} (h : W.cell? ⟨b, i, none⟩ = some u1 ∧ W.cell? ⟨b, j, none⟩ = some u2 ∧ Below W0.heap.size W0 W) (hb : Below W.heap.size W w1) :
    w1.cell? ⟨b, i, none⟩ = some u1 ∧ w1.cell? ⟨b, j, none⟩ = some u2 ∧ Below W0.heap.size W0 w1 := ⟨cell_over h.1 hb, cell_over h.2.1 hb, h.2.2.trans (hb.mono h.2.2.size)⟩
set_option maxRecDepth 100000 in
set_option maxHeartbeats 4000000 in
theorem lessQ (n : Nat) (h : Nat → Nat × Ent) (rowv : Value) (i j : Nat) (hi : i < n) (hj : j < n) (hn : n ≤ 9223372036854775807) (w : World) (H : Hp w n h rowv) :
    Calls Try.prog 70 #[rowv, .int .i64 i, .int .i64 j] w fun e w' => (∃ b, e = .returned (.bool b) ∧ (b = true ↔ ltE (h i).2 (h j).2)) ∧ Below w.heap.size w w' := by
  obtain ⟨g, cap, rfl, _, _⟩ := H.row.form (by omega)
  have ci : w.cell? ⟨g, i, none⟩ = some (.pointer (some ⟨(h i).1, 0, none⟩)) := by rw [H.row.cellAt i (by omega)]; exact ptrs_at h hi
  have cj : w.cell? ⟨g, j, none⟩ = some (.pointer (some ⟨(h j).1, 0, none⟩)) := by rw [H.row.cellAt j (by omega)]; exact ptrs_at h hj
  have K := hide' (fun W (hW : Below w.heap.size w W) => compareE (h i).2 (h j).2 (h i).1 (h j).1 W (cell_over (H.ent i hi).c1 hW) (cell_over (H.ent j hj).c1 hW) (cell_over (H.ent i hi).c2 hW) (cell_over (H.ent j hj).c2 hW))
  have hlt := hide' (cmp_lt (h i).2 (h j).2)
  generalize orI (cmpI (h i).2.tm (h j).2.tm) (cmpI (h i).2.turn (h j).2.turn) = c at *
  generalize (h i).1 = p at *
  generalize (h j).1 = q at *
  clear H
  have hi0 : Hid (w.drew.cell? ⟨g, i, none⟩ = some (.pointer (some ⟨p, 0, none⟩)) ∧ w.drew.cell? ⟨g, j, none⟩ = some (.pointer (some ⟨q, 0, none⟩)) ∧ Below w.heap.size w w.drew) := ⟨ci, cj, (Below.refl _ _).drew⟩
  go_enter Try.func70, Try.ntmps70
  go_wp2
  go_region_held3 (fun V => V.cell? ⟨g, i, none⟩ = some (.pointer (some ⟨p, 0, none⟩)) ∧ V.cell? ⟨g, j, none⟩ = some (.pointer (some ⟨q, 0, none⟩)) ∧ Below w.heap.size w V) (first | (exact keepL (by assumption) hb) | (exact keepL hi0.out hb) | (exact hi0.out)) (first | (go_at_call 24; refine (K.out _ (by first | exact ‹_ ∧ _ ∧ _›.2.2 | exact (Below.refl _ _).drew)).mono ?_; rintro e w1 ⟨rfl, hb⟩))
  go_wp2
  go_ret
  exact ⟨⟨_, rfl, by simp only [decide_eq_true_eq]; exact hlt.out⟩, ‹_ ∧ _ ∧ Below w.heap.size w w1›.2.2⟩
end Go.Proofs.Ytmjdecgijnodhaa
