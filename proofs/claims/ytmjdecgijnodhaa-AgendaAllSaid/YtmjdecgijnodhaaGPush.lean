/- queue.Push, queue.Pop, queue.Len, heap.Push: what they answer. -/
import Derived.Test.YtmjdecgijnodhaaGUp
namespace Go.Proofs.Ytmjdecgijnodhaa
open Go.RowKit
theorem infoP : (Try.prog.info? 57).map (fun i => (i.zero, i.size, i.bytes)) = some (some (.pointer none), 1, 8) := by kernel_rfl
/-- The agenda's own fields. -/
def AgBox (w : World) (a : Nat) (rowv : Value) (mb : Nat) (sets : Int) : Prop := w.heap[a]? = some (.cells #[rowv, .map (some mb), .int .i64 sets] 60 (0, 0))
section
variable {w w' : World} {a mb : Nat} {rowv : Value} {sets : Int}
theorem AgBox.lt (h : AgBox w a rowv mb sets) : a < w.heap.size := (Array.getElem?_eq_some_iff.1 h).1
theorem AgBox.c0 (h : AgBox w a rowv mb sets) : w.cell? ⟨a, 0, none⟩ = some rowv := by unfold AgBox at h; simp [World.cell?, h]
theorem AgBox.c1 (h : AgBox w a rowv mb sets) : w.cell? ⟨a, 1, none⟩ = some (.map (some mb)) := by unfold AgBox at h; simp [World.cell?, h]
theorem AgBox.c2 (h : AgBox w a rowv mb sets) : w.cell? ⟨a, 2, none⟩ = some (.int .i64 sets) := by unfold AgBox at h; simp [World.cell?, h]
theorem AgBox.fz (h : AgBox w a rowv mb sets) (k : Nat) : w.frozen? ⟨a, k, none⟩ = false := frozen_of_row w a k _ _ h
theorem AgBox.same (h : AgBox w a rowv mb sets) (hs : w'.heap[a]? = w.heap[a]?) : AgBox w' a rowv mb sets := hs.trans h
theorem AgBox.s0 (h : AgBox w a rowv mb sets) (u : Value) : AgBox (w.setCell ⟨a, 0, none⟩ u) a u mb sets := by
  have := heap_setCell_same w a 0 _ _ u h; simpa [AgBox] using this
theorem AgBox.s2 (h : AgBox w a rowv mb sets) (z : Int) : AgBox (w.setCell ⟨a, 2, none⟩ (.int .i64 z)) a rowv mb z := by
  have := heap_setCell_same w a 2 _ _ (.int .i64 z) h; simpa [AgBox] using this
end
/-- The agenda's block is neither the row's nor an entry's. -/
theorem box_far {w : World} {n : Nat} {h : Nat → Nat × Ent} {rowv rv : Value} {a mb : Nat} {sets : Int} (H : Hp w n h rowv) (hb : AgBox w a rv mb sets) : ¬ FH n h rowv a := by
  rintro (e | ⟨l, hl, e⟩)
  · obtain ⟨c1, f1, h1⟩ := Go.Lib.ownsRow_kind H.row _ e
    unfold AgBox at hb
    rw [h1] at hb
    simp at hb
  · have h2 := H.ent l hl
    unfold EntAt at h2
    unfold AgBox at hb
    rw [e, hb] at h2
    simp at h2
theorem heap_newG (w : World) (o : Obj) : (w.alloc o).heap[w.heap.size]? = some o := by
  show (w.heap.push o)[w.heap.size]? = some o
  simp
theorem size_setG (w : World) (p : Addr) (u : Value) : (w.setCell p u).heap.size = w.heap.size := by simp [World.setCell]
theorem assertE (v : Value) (w : World) : (Instr.typeAssert (.iface 57 v) 20 57 false).run Try.prog w = .ok v w := by kernel_rfl
theorem lenQ (o : Option Addr) (n cap : Nat) (w : World) : Calls Try.prog 69 #[.slice o n cap] w fun e w' => e = .returned (.int .i64 n) ∧ w' = w := by
  go_enter Try.func69, Try.ntmps69
  go_wp2
  go_ret
  exact ⟨rfl, rfl⟩
/-- One more at the end. -/
def addF (h : Nat → Nat × Ent) (n p : Nat) (e : Ent) (k : Nat) : Nat × Ent := if k = n then (p, e) else h k
theorem addF_n (h : Nat → Nat × Ent) (n p : Nat) (e : Ent) : addF h n p e n = (p, e) := if_pos rfl
theorem addF_o (h : Nat → Nat × Ent) {n p k : Nat} (e : Ent) (hk : k ≠ n) : addF h n p e k = h k := if_neg hk
/-- The row grown by one more. -/
theorem pushEnd {W w2 : World} {a n mb p g2 cap2 : Nat} {sets : Int} {rowv : Value} {h : Nat → Nat × Ent} {e : Ent} {o : Obj} (H : Hp W n h rowv) (he : EntAt W p e n) (hb : AgBox W a rowv mb sets) (hp : ∀ k, k < n → (h k).1 ≠ p)
    (hown : w2.ownsRow 0 57 1 (.slice (some ⟨g2, 0, none⟩) (n + 1) cap2) (n + 1) (ptrs h n ++ [.pointer (some ⟨p, 0, none⟩)])) (hgrow : (W.alloc o).grownBy w2 rowv.ownBlock) (hat : rowv.ownBlock = some g2 ∨ g2 = (W.alloc o).heap.size) :
    Hp w2 (n + 1) (addF h n p e) (.slice (some ⟨g2, 0, none⟩) (n + 1) cap2) ∧ AgBox w2 a rowv mb sets ∧ Mv (fun k => rowv.ownBlock = some k) W w2 ∧ (rowv.ownBlock = some g2 ∨ W.heap.size ≤ g2) := by
  have hM : Mv (fun k => rowv.ownBlock = some k) W w2 := (Mv.alloc o).trans (Mv.grown hgrow (fun g eg => eg) (fun g eg => (ne_row H.row eg (by decide)).same (Below.heap_alloc _ _ _ (H.row.lt g eg).2))) (fun _ _ x => x)
  have hfar : ∀ k, k < n → ¬ rowv.ownBlock = some (h k).1 := fun k hk => H.far hk
  have hpf : ¬ rowv.ownBlock = some p := fun x => by
    obtain ⟨c1, f1, h1⟩ := Go.Lib.ownsRow_kind H.row _ x
    unfold EntAt at he
    rw [h1] at he
    simp at he
  refine ⟨⟨?_, fun k hk => ?_, fun k l hk hl ek => ?_⟩, hb.same (hM.block a hb.lt fun x => box_far H hb (.inl x)), hM, hat.imp id (fun x => by rw [x]; simp)⟩
  · have e1 : ptrs (addF h n p e) (n + 1) = ptrs h n ++ [.pointer (some ⟨p, 0, none⟩)] := by
      rw [ptrs_snoc, addF_n, ptrs_congr h (addF h n p e) n (fun k hk => addF_o h e (by omega))]
    rw [e1]; exact hown
  · by_cases e1 : k = n
    · subst e1; rw [addF_n]; exact he.same (hM.block p he.lt hpf)
    · rw [addF_o h e e1]
      have hk' : k < n := by omega
      exact (H.ent k hk').same (hM.block _ (H.ent k hk').lt (hfar k hk'))
  · by_cases e1 : k = n
    · by_cases e2 : l = n
      · omega
      · rw [e1, addF_n, addF_o h e e2] at ek
        exact absurd ek.symm (hp l (by omega))
    · by_cases e2 : l = n
      · rw [e2, addF_n, addF_o h e e1] at ek
        exact absurd ek (hp k (by omega))
      · rw [addF_o h e e1, addF_o h e e2] at ek
        exact H.inj k l (by omega) (by omega) ek
set_option maxRecDepth 100000 in
set_option maxHeartbeats 4000000 in
theorem pushQ (a n mb p pl : Nat) (sets : Int) (rowv : Value) (h : Nat → Nat × Ent) (e : Ent) (hn : n ≤ 1000000) (w : World) (H : Hp w n h rowv) (hb : AgBox w a rowv mb sets) (he : EntAt w p e pl) (hp : ∀ k, k < n → (h k).1 ≠ p) :
    Calls Try.prog 73 #[.pointer (some ⟨a, 0, none⟩), .iface 57 (.pointer (some ⟨p, 0, none⟩))] w fun e' w' => e' = .returned (.tuple #[]) ∧ ∃ g cap, Hp w' (n + 1) (addF h n p e) (.slice (some ⟨g, 0, none⟩) (n + 1) cap) ∧ AgBox w' a (.slice (some ⟨g, 0, none⟩) (n + 1) cap) mb sets ∧ (rowv.ownBlock = some g ∨ w.heap.size ≤ g) ∧ Mv (fun k => FH n h rowv k ∨ k = a ∨ k = p) w w' := by
  obtain ⟨iP, hiP, hz0, hz1, hz2⟩ := info_parts infoP
  have hfa := box_far H hb
  have hap : a ≠ p := fun x => by
    subst x
    unfold EntAt at he
    unfold AgBox at hb
    rw [hb] at he
    simp at he
  have c0 := hb.c0
  have pc := he.c3
  have pf := he.fz 3
  have H1 : Hid (Hp (w.setCell ⟨p, 3, none⟩ (.int .i64 n)) n h rowv) := by
    refine ⟨owns_same H.row fun g _ eg => Below.heap_setCell _ _ _ _ fun x => ?_, fun k hk => (H.ent k hk).same (Below.heap_setCell _ _ _ _ (hp k hk)), H.inj⟩
    obtain ⟨c1, f1, h1⟩ := Go.Lib.ownsRow_kind H.row _ eg
    have x' : g = p := x
    subst x'
    unfold EntAt at he
    rw [h1] at he
    simp at he
  have E1 := hide' (he.s3 n)
  have B1 := hide' (hb.same (Below.heap_setCell w ⟨p, 3, none⟩ (.int .i64 n) a hap))
  have M1 : Hid (Mv (fun k => FH n h rowv k ∨ k = a ∨ k = p) w (w.setCell ⟨p, 3, none⟩ (.int .i64 n))) := Mv.setCell _ (.inr (.inr rfl)) (.inr ⟨n, rfl, rfl⟩)
  have hfa' := hide' hfa
  have hp' := hide' hp
  have c0' := B1.out.c0
  obtain ⟨oa, cap0, rfl⟩ : ∃ oa cap, rowv = .slice oa n cap := by
    rcases H.row.2 with ⟨rfl, h0⟩ | ⟨g, cap, cur, rfl, _⟩
    · exact ⟨none, 0, by rw [h0]⟩
    · exact ⟨_, _, rfl⟩
  have hnb := hide' (World.news_of_block (cs := #[.pointer (some ⟨p, 0, none⟩)]) (B := w.heap.size) (w := (w.setCell ⟨p, 3, none⟩ (.int .i64 n)).alloc (.cells #[.pointer (some ⟨p, 0, none⟩)] 57)) (by have := heap_newG (w.setCell ⟨p, 3, none⟩ (.int .i64 n)) (.cells #[.pointer (some ⟨p, 0, none⟩)] 57); rwa [size_setG] at this))
  clear H hb he hfa hp
  have hta := assertE (.pointer (some ⟨p, 0, none⟩))
  go_enter Try.func73, Try.ntmps73
  go_wp2_with (at_builtin; go_loud (refine wpList_append_lies _ rfl _ _ 55 rfl 0 57 iP (.pointer none) 1 8 Try.underlying55 hiP hz0 hz1 hz2 rfl (by decide) (.slice oa n cap0) n (ptrs h n) rfl (H1.out.row.alloc _) ⟨w.heap.size, 0, none⟩ 1 1 [.pointer (some ⟨p, 0, none⟩)] rfl rfl hnb.out (by simp [Value.oneCell']) (by decide) (by unfold maxLen; omega) (by omega) (Nat.zero_le _) _ rfl ?_); intro g2 cap2 w2 hown2 hgrow2 hat2 hlt2; have hX := hide' (pushEnd H1.out E1.out B1.out hp'.out hown2 hgrow2 hat2); have cX := hX.out.2.1.c0; have fX := hX.out.2.1.fz 0)
  first | go_end0 | refine bodyPost_ret (results_none rfl _ _ _) rfl ?_
  obtain ⟨q1, q2, q3, q4⟩ := hX.out
  refine ⟨rfl, g2, cap2, ⟨owns_same q1.row fun k _ ek => Below.heap_setCell _ _ _ _ (fun x => box_far q1 q2 (.inl (by have x2 : k = a := x; rw [← x2]; exact ek))), fun k hk => (q1.ent k hk).same (Below.heap_setCell _ _ _ _ (fun x => box_far q1 q2 (.inr ⟨k, hk, x⟩))), q1.inj⟩, q2.s0 _, q4.imp id (fun x => by rw [size_setG] at x; omega), (M1.out.trans (q3.mono (G := fun k => FH n h (.slice oa n cap0) k ∨ k = a ∨ k = p) (fun k hk => .inl (.inl hk))) (fun _ _ x => x)).trans (Mv.setCell (F := fun k => FH n h (.slice oa n cap0) k ∨ k = a ∨ k = p) _ (.inr (.inl rfl)) (.inl (ne_other q2 (by decide)))) (fun _ _ x => x)⟩
end Go.Proofs.Ytmjdecgijnodhaa
