/- The heap in memory, and what Push and Pop make of it. -/
import Derived.Test.YtjimiabfgmchiaaDoorKApp
import Derived.Test.YtjimiabfgmchiaaDoorJ35
import Derived.Maps.AppendAt
import Derived.RangeFuncBox
import Derived.RangeFuncCalls
namespace Go.Proofs.YtjimiabfgmchiaaDoor
open Go.RowKit
theorem infoT : (Tryd.prog.info? 84).map (fun i => (i.zero, i.size, i.bytes)) = some (some (.agg #[.int .i64 0, .int .i64 0]), 2, 16) := by kernel_rfl
/-- The variable that holds the row. -/
def TB (w : World) (a : Nat) (rowv : Value) : Prop := w.heap[a]? = some (.cells #[rowv] 81 (0, 0))
section
variable {w w' : World} {a : Nat} {rowv : Value}
theorem TB.lt (h : TB w a rowv) : a < w.heap.size := (Array.getElem?_eq_some_iff.1 h).1
theorem TB.c0 (h : TB w a rowv) : w.cell? ⟨a, 0, none⟩ = some rowv := by unfold TB at h; simp [World.cell?, h]
theorem TB.fz (h : TB w a rowv) : w.frozen? ⟨a, 0, none⟩ = false := frozen_of_row w a 0 _ _ h
theorem TB.same (h : TB w a rowv) (hs : w'.heap[a]? = w.heap[a]?) : TB w' a rowv := hs.trans h
theorem TB.s0 (h : TB w a rowv) (u : Value) : TB (w.setCell ⟨a, 0, none⟩ u) a u := by
  have := heap_setCell_same w a 0 _ _ u h; simpa [TB] using this
end
/-- The variable's block is not the row's. -/
theorem TB.far {w : World} {a n : Nat} {f : Nat → Ent} {rowv rv : Value} (H : TH w n f rowv) (hb : TB w a rv) : rowv.ownBlock ≠ some a := fun e => by
  obtain ⟨c1, f1, h1⟩ := Go.Lib.ownsRow_kind H _ e
  unfold TB at hb
  rw [h1] at hb
  simp at hb
/-- One more at the end. -/
def addE (f : Nat → Ent) (n : Nat) (e : Ent) (k : Nat) : Ent := if k = n then e else f k
theorem addE_n (f : Nat → Ent) (n : Nat) (e : Ent) : addE f n e n = e := if_pos rfl
theorem addE_o (f : Nat → Ent) {n k : Nat} (e : Ent) (hk : k ≠ n) : addE f n e k = f k := if_neg hk
theorem prs_snoc (f : Nat → Ent) (n : Nat) (e : Ent) : prs (addE f n e) (n + 1) = prs f n ++ [.int .i64 e.tm, .int .i64 e.turn] := by
  refine List.ext_getElem? fun c => ?_
  by_cases hc : c < 2 * n
  · rw [prs_cell _ (by omega), List.getElem?_append_left (by rw [prs_len]; exact hc), prs_cell _ hc]
    congr 2
    unfold valE
    rw [addE_o f e (by omega)]
  · rw [List.getElem?_append_right (by rw [prs_len]; omega), prs_len]
    by_cases h1 : c = n * 2
    · subst h1
      rw [prs_cell _ (by omega), val_tm, addE_n, show n * 2 - 2 * n = 0 by omega]; rfl
    · by_cases h2 : c = n * 2 + 1
      · subst h2
        rw [prs_cell _ (by omega), val_turn, addE_n, show n * 2 + 1 - 2 * n = 1 by omega]; rfl
      · rw [prs_none _ (by omega)]
        symm
        exact List.getElem?_eq_none (by simp; omega)
theorem prs_take (f : Nat → Ent) (n : Nat) : (prs f (n + 1)).take (2 * n) = prs f n := by
  refine List.ext_getElem? fun c => ?_
  rw [List.getElem?_take]
  by_cases hc : c < 2 * n
  · rw [if_pos hc, prs_cell _ (by omega), prs_cell _ hc]
  · rw [if_neg hc, prs_none _ hc]
theorem assertT (v : Value) (w : World) : (Instr.typeAssert (.iface 84 v) 20 84 false).run Tryd.prog w = .ok v w := by kernel_rfl
theorem heap_newV (w : World) (o : Obj) : (w.alloc o).heap[w.heap.size]? = some o := by
  show (w.heap.push o)[w.heap.size]? = some o
  simp
theorem lenT (o : Option Addr) (n cap : Nat) (w : World) : Calls Tryd.prog 35 #[.slice o n cap] w fun e w' => e = .returned (.int .i64 n) ∧ w' = w := by
  go_enter Tryd.func35, Tryd.ntmps35
  go_wp2
  go_ret
  exact ⟨rfl, rfl⟩
/-- The row's block, the variable's: nothing else is turned. -/
def Fz (a : Nat) (rowv : Value) (w w' : World) : Prop := w'.os = w.os ∧ w'.tape = w.tape ∧ w'.output = w.output ∧ w.heap.size ≤ w'.heap.size ∧ ∀ k, k < w.heap.size → k ≠ a → rowv.ownBlock ≠ some k → w'.heap[k]? = w.heap[k]?
theorem own_form2 {w : World} {n : Nat} {f : Nat → Ent} {v : Value} (h : TH w n f v) : ∃ oa cap, v = .slice oa n cap := by
  rcases h.2 with ⟨rfl, rfl⟩ | ⟨g, cap, cur, rfl, _⟩
  · exact ⟨_, _, rfl⟩
  · exact ⟨_, _, rfl⟩
set_option maxRecDepth 100000 in
set_option maxHeartbeats 4000000 in
theorem pushT (a n : Nat) (rowv : Value) (f : Nat → Ent) (e : Ent) (hn : n ≤ 900) (w : World) (H : TH w n f rowv) (hb : TB w a rowv) :
    Calls Tryd.prog 90 #[.pointer (some ⟨a, 0, none⟩), .iface 84 (.agg #[.int .i64 e.tm, .int .i64 e.turn])] w fun e' w' => e' = .returned (.tuple #[]) ∧ ∃ g cap, TH w' (n + 1) (addE f n e) (.slice (some ⟨g, 0, none⟩) (n + 1) cap) ∧ TB w' a (.slice (some ⟨g, 0, none⟩) (n + 1) cap) ∧ (rowv.ownBlock = some g ∨ w.heap.size ≤ g) ∧ Fz a rowv w w' := by
  obtain ⟨iT, hiT, hz0, hz1, hz2⟩ := info_parts infoT
  have hta := assertT (.agg #[.int .i64 e.tm, .int .i64 e.turn])
  have ca := hb.c0
  have hfar := hide' (TB.far H hb)
  have hlt := hb.lt
  obtain ⟨og, cg, rfl⟩ := own_form2 H
  have hO : Hid (∀ o, (w.drew.alloc o).ownsRow 0 84 2 (.slice og n cg) n (prs f n)) := fun o => (World.ownsRow.drew H).alloc o
  have hnb := hide' (World.news_of_block (cs := #[.int .i64 e.tm, .int .i64 e.turn]) (B := w.heap.size) (w := w.drew.alloc (.cells #[.int .i64 e.tm, .int .i64 e.turn] 84)) (by have := heap_newV w.drew (.cells #[.int .i64 e.tm, .int .i64 e.turn] 84); exact this))
  have hX : Hid (∀ g5 cap5 w5, w5.ownsRow 0 84 2 (.slice (some ⟨g5, 0, none⟩) (n + 1) cap5) (n + 1) (prs f n ++ [.int .i64 e.tm, .int .i64 e.turn]) → ((.slice og n cg = Value.slice (some ⟨g5, 0, none⟩) n cap5 ∧ (w.drew.alloc (.cells #[.int .i64 e.tm, .int .i64 e.turn] 84)).grownBy w5 (some g5)) ∨ (g5 = (w.drew.alloc (.cells #[.int .i64 e.tm, .int .i64 e.turn] 84)).heap.size ∧ (w.drew.alloc (.cells #[.int .i64 e.tm, .int .i64 e.turn] 84)).grownBy w5 none)) →
      TB w5 a (.slice og n cg) ∧ TH (w5.setCell ⟨a, 0, none⟩ (.slice (some ⟨g5, 0, none⟩) (n + 1) cap5)) (n + 1) (addE f n e) (.slice (some ⟨g5, 0, none⟩) (n + 1) cap5) ∧ ((Value.slice og n cg).ownBlock = some g5 ∨ w.heap.size ≤ g5) ∧ Fz a (.slice og n cg) w (w5.setCell ⟨a, 0, none⟩ (.slice (some ⟨g5, 0, none⟩) (n + 1) cap5))) := fun g5 cap5 w5 h1 h2 => by
    have hz : (w.drew.alloc (.cells #[.int .i64 e.tm, .int .i64 e.turn] 84)).heap.size = w.heap.size + 1 := by rw [World.size_alloc]; rfl
    have hg5 : (Value.slice og n cg).ownBlock = some g5 ∨ w.heap.size < g5 := by
      rcases h2 with ⟨e1, _⟩ | ⟨e1, _⟩
      · exact .inl (by rw [e1]; rfl)
      · exact .inr (by omega)
    have hgw : w.heap.size ≤ w5.heap.size ∧ w5.os = w.os ∧ w5.tape = w.tape ∧ w5.output = w.output ∧ ∀ k, k < w.heap.size → (Value.slice og n cg).ownBlock ≠ some k → w5.heap[k]? = w.heap[k]? := by
      rcases h2 with ⟨e1, hg⟩ | ⟨_, hg⟩
      · refine ⟨by have := hg.size; omega, hg.os, hg.tape, hg.output, fun k hk hne => ?_⟩
        rw [hg.block k (by omega) (fun e2 => hne (by rw [e1]; exact e2.symm)), Below.heap_alloc _ _ _ (show k < w.drew.heap.size from hk)]
        rfl
      · refine ⟨by have := hg.size; omega, hg.os, hg.tape, hg.output, fun k hk _ => ?_⟩
        rw [hg.block k (by omega) (by simp), Below.heap_alloc _ _ _ (show k < w.drew.heap.size from hk)]
        rfl
    have hga : g5 ≠ a := fun e1 => by
      subst e1
      rcases hg5 with h | h
      · exact hfar.out h
      · omega
    have hB5 : TB w5 a (.slice og n cg) := hb.same (hgw.2.2.2.2 a hlt hfar.out)
    refine ⟨hB5, ?_, hg5.imp id (fun h => by omega), ⟨hgw.2.1, hgw.2.2.1, hgw.2.2.2.1, by simp [World.setCell]; exact hgw.1, fun k hk hka hne => ?_⟩⟩
    · unfold TH
      rw [prs_snoc]
      refine ⟨h1.1, ?_⟩
      rcases h1.2 with ⟨hn1, _⟩ | ⟨g', cap', cur, e1, hb0, hgg, rest⟩
      · cases hn1
      · refine .inr ⟨g', cap', cur, e1, hb0, ?_, rest⟩
        cases e1
        rw [Below.heap_setCell _ _ _ _ hga]; exact hgg
    · rw [Below.heap_setCell _ _ _ _ hka]; exact hgw.2.2.2.2 k hk hne
  clear H hb
  go_enter Tryd.func90, Tryd.ntmps90
  go_wp2
  refine wp_region_held_drew (S := (fun _ => True)) (by kernel_rfl) ?_ (fun hHeld => ?_)
  · trivial
  refine wpAnyH_take (i := 0) (oi := { dst := some 4, op := Op.move (Operand.tmp 0), type := 79, pos := "rows.go:27", after := #[], guard := none }) (v := ?_) rfl (by kernel_rfl) (by kernel_rfl) (by kernel_rfl) (fun _ _ _ h => h) (Or.inl ⟨by rfl, ?_⟩) (by assumption) ?_
  rotate_left
  · intro w hSw; (try dsimp only at hSw); go_simp <;> with_reducible rfl
  simp only [Act.put, List.setIfInBounds_toArray, List.set_cons_zero, List.set_cons_succ]
  refine wpAnyH_take (i := 1) (oi := { dst := some 5, op := Op.move (Operand.tmp 0), type := 79, pos := "rows.go:27", after := #[], guard := none }) (v := ?_) rfl (by kernel_rfl) (by kernel_rfl) (by kernel_rfl) (fun _ _ _ h => h) (Or.inl ⟨by rfl, ?_⟩) (by assumption) ?_
  rotate_left
  · intro w hSw; (try dsimp only at hSw); go_simp <;> with_reducible rfl
  simp only [Act.put, List.setIfInBounds_toArray, List.set_cons_zero, List.set_cons_succ]
  refine wpAnyH_take (i := 2) (oi := { dst := some 6, op := Op.nilCheck (Operand.tmp 5), type := 0, pos := "rows.go:27", after := #[{ on := 1, ground := Ground.data }], guard := none }) (v := ?_) rfl (by kernel_rfl) (by kernel_rfl) (by kernel_rfl) (fun _ _ _ h => h) (Or.inl ⟨by rfl, ?_⟩) (by assumption) ?_
  rotate_left
  · intro w hSw; (try dsimp only at hSw); go_simp <;> with_reducible rfl
  simp only [Act.put, List.setIfInBounds_toArray, List.set_cons_zero, List.set_cons_succ]
  refine wpAnyH_take (i := 4) (oi := { dst := some 8, op := Op.move (Operand.tmp 1), type := 20, pos := "rows.go:27", after := #[], guard := none }) (v := ?_) rfl (by kernel_rfl) (by kernel_rfl) (by kernel_rfl) (fun _ _ _ h => h) (Or.inl ⟨by rfl, ?_⟩) (by assumption) ?_
  rotate_left
  · intro w hSw; (try dsimp only at hSw); go_simp <;> with_reducible rfl
  simp only [Act.put, List.setIfInBounds_toArray, List.set_cons_zero, List.set_cons_succ]
  refine wpAnyH_take (i := 5) (oi := { dst := some 9, op := Op.typeAssert (Operand.tmp 8) 20 84 false, type := 84, pos := "rows.go:27", after := #[{ on := 4, ground := Ground.data }], guard := none }) (v := ?_) rfl (by kernel_rfl) (by kernel_rfl) (by kernel_rfl) (fun _ _ _ h => h) (Or.inl ⟨by rfl, ?_⟩) (by assumption) ?_
  rotate_left
  · intro w hSw; (try dsimp only at hSw); go_simp <;> with_reducible rfl
  simp only [Act.put, List.setIfInBounds_toArray, List.set_cons_zero, List.set_cons_succ]
  refine wpAnyH_ready (rs := [3, 6]) (by kernel_rfl) (by simp) ?_
  refine AllReadyH.cons (o := { dst := some 7, op := Op.load 81 (Operand.tmp 6), type := 81, pos := "rows.go:27", after := #[{ on := 2, ground := Ground.data }], guard := none }) rfl (fun K hK => ?_) ?_
  · skip
    go_simp
    refine hK.out _ _ ?_ (fun hHeld => ?_)
    · trivial
    clear hK K
    try simp only [Act.put, List.setIfInBounds_toArray, List.set_cons_zero, List.set_cons_succ]
    refine wpAnyH_ready (rs := [6]) (by kernel_rfl) (by simp) ?_
    refine AllReadyH.cons (o := { dst := some 10, op := Op.buildSlice 81 1 #[(0, Operand.tmp 9)], type := 81, pos := "rows.go:27", after := #[{ on := 5, ground := Ground.data }], guard := none }) rfl (fun K hK => ?_) AllReadyH.nil
    go_simp
    refine hK.out _ _ ?_ (fun hHeld => ?_)
    · trivial
    clear hK K
    try simp only [Act.put, List.setIfInBounds_toArray, List.set_cons_zero, List.set_cons_succ]
    refine wpAnyH_ready (rs := [7]) (by kernel_rfl) (by simp) ?_
    refine AllReadyH.cons (o := { dst := some 11, op := Op.call { callee := Callee.builtin Builtin.append, args := #[Operand.tmp 7, Operand.tmp 10], argTypes := #[81, 81] }, type := 81, pos := "rows.go:27", after := #[{ on := 3, ground := Ground.data }, { on := 6, ground := Ground.data }], guard := none }) rfl (fun K hK => ?_) AllReadyH.nil
    rw [if_pos (by rfl)]
    refine _root_.Go.Proofs.YtjimiabfgmchiaaDoor.K.wp_append_two _ (.tmp 7) (.tmp 10) 81 rfl 0 84 iT (.agg #[.int .i64 0, .int .i64 0]) 2 16 Tryd.underlying81 hiT hz0 hz1 hz2 rfl (by decide) (.slice og n cg) n (prs f n) rfl (hO.out _) ⟨w.heap.size, 0, none⟩ 1 1 [.int .i64 e.tm, .int .i64 e.turn] rfl rfl hnb.out (by simp [Value.oneCell']) (by decide) (by unfold maxLen; omega) (by omega) (Nat.zero_le _) ?_; intro g5 cap5 w5 hnew5 hold5 hat5; have hX5 := hide' (hX.out g5 cap5 w5 hnew5 hat5); have cX := hX5.out.1.c0; have fX := hX5.out.1.fz; clear hnew5 hold5 hat5; (try dsimp only)
    refine hK.out _ _ ?_ (fun hHeld => ?_)
    · trivial
    clear hK K
    try simp only [Act.put, List.setIfInBounds_toArray, List.set_cons_zero, List.set_cons_succ]
    refine wpAnyH_take (i := 8) (oi := { dst := some 12, op := Op.nilCheck (Operand.tmp 4), type := 0, pos := "rows.go:27", after := #[{ on := 0, ground := Ground.data }, { on := 0, ground := Ground.phase }, { on := 1, ground := Ground.phase }, { on := 2, ground := Ground.phase }, { on := 3, ground := Ground.phase }, { on := 4, ground := Ground.phase }, { on := 5, ground := Ground.phase }, { on := 6, ground := Ground.phase }, { on := 7, ground := Ground.phase }], guard := none }) (v := ?_) rfl (by kernel_rfl) (by kernel_rfl) (by kernel_rfl) (fun _ _ _ h => h) (Or.inl ⟨by rfl, ?_⟩) (by assumption) ?_
    rotate_left
    · intro w hSw; (try dsimp only at hSw); go_simp <;> with_reducible rfl
    simp only [Act.put, List.setIfInBounds_toArray, List.set_cons_zero, List.set_cons_succ]
    refine wpAnyH_ready (rs := [9]) (by kernel_rfl) (by simp) ?_
    refine AllReadyH.cons (o := { dst := none, op := Op.store 81 (Operand.tmp 12) (Operand.tmp 11), type := 0, pos := "rows.go:27", after := #[{ on := 8, ground := Ground.data }, { on := 7, ground := Ground.data }, { on := 7, ground := Ground.chain }, { on := 0, ground := Ground.phase }, { on := 1, ground := Ground.phase }, { on := 2, ground := Ground.phase }, { on := 3, ground := Ground.phase }, { on := 4, ground := Ground.phase }, { on := 5, ground := Ground.phase }, { on := 6, ground := Ground.phase }, { on := 7, ground := Ground.phase }], guard := none }) rfl (fun K hK => ?_) AllReadyH.nil
    go_simp
    refine hK.out _ _ ?_ (fun hHeld => ?_)
    · trivial
    clear hK K
    try simp only [Act.put, List.setIfInBounds_toArray, List.set_cons_zero, List.set_cons_succ]
    refine wpAnyH_done (by kernel_rfl) ?_ _
    skip
    first | go_end0 | refine bodyPost_ret (results_none rfl _ _ _) rfl ?_
    exact ⟨rfl, g5, cap5, hX5.out.2.1, hX5.out.1.s0 _, hX5.out.2.2.1, hX5.out.2.2.2⟩
  refine AllReadyH.cons (o := { dst := some 10, op := Op.buildSlice 81 1 #[(0, Operand.tmp 9)], type := 81, pos := "rows.go:27", after := #[{ on := 5, ground := Ground.data }], guard := none }) rfl (fun K hK => ?_) AllReadyH.nil
  go_simp
  refine hK.out _ _ ?_ (fun hHeld => ?_)
  · trivial
  clear hK K
  try simp only [Act.put, List.setIfInBounds_toArray, List.set_cons_zero, List.set_cons_succ]
  refine wpAnyH_ready (rs := [3]) (by kernel_rfl) (by simp) ?_
  refine AllReadyH.cons (o := { dst := some 7, op := Op.load 81 (Operand.tmp 6), type := 81, pos := "rows.go:27", after := #[{ on := 2, ground := Ground.data }], guard := none }) rfl (fun K hK => ?_) AllReadyH.nil
  go_simp
  refine hK.out _ _ ?_ (fun hHeld => ?_)
  · trivial
  clear hK K
  try simp only [Act.put, List.setIfInBounds_toArray, List.set_cons_zero, List.set_cons_succ]
  refine wpAnyH_ready (rs := [7]) (by kernel_rfl) (by simp) ?_
  refine AllReadyH.cons (o := { dst := some 11, op := Op.call { callee := Callee.builtin Builtin.append, args := #[Operand.tmp 7, Operand.tmp 10], argTypes := #[81, 81] }, type := 81, pos := "rows.go:27", after := #[{ on := 3, ground := Ground.data }, { on := 6, ground := Ground.data }], guard := none }) rfl (fun K hK => ?_) AllReadyH.nil
  rw [if_pos (by rfl)]
  refine _root_.Go.Proofs.YtjimiabfgmchiaaDoor.K.wp_append_two _ (.tmp 7) (.tmp 10) 81 rfl 0 84 iT (.agg #[.int .i64 0, .int .i64 0]) 2 16 Tryd.underlying81 hiT hz0 hz1 hz2 rfl (by decide) (.slice og n cg) n (prs f n) rfl (hO.out _) ⟨w.heap.size, 0, none⟩ 1 1 [.int .i64 e.tm, .int .i64 e.turn] rfl rfl hnb.out (by simp [Value.oneCell']) (by decide) (by unfold maxLen; omega) (by omega) (Nat.zero_le _) ?_; intro g5 cap5 w5 hnew5 hold5 hat5; have hX5 := hide' (hX.out g5 cap5 w5 hnew5 hat5); have cX := hX5.out.1.c0; have fX := hX5.out.1.fz; clear hnew5 hold5 hat5; (try dsimp only)
  refine hK.out _ _ ?_ (fun hHeld => ?_)
  · trivial
  clear hK K
  try simp only [Act.put, List.setIfInBounds_toArray, List.set_cons_zero, List.set_cons_succ]
  refine wpAnyH_take (i := 8) (oi := { dst := some 12, op := Op.nilCheck (Operand.tmp 4), type := 0, pos := "rows.go:27", after := #[{ on := 0, ground := Ground.data }, { on := 0, ground := Ground.phase }, { on := 1, ground := Ground.phase }, { on := 2, ground := Ground.phase }, { on := 3, ground := Ground.phase }, { on := 4, ground := Ground.phase }, { on := 5, ground := Ground.phase }, { on := 6, ground := Ground.phase }, { on := 7, ground := Ground.phase }], guard := none }) (v := ?_) rfl (by kernel_rfl) (by kernel_rfl) (by kernel_rfl) (fun _ _ _ h => h) (Or.inl ⟨by rfl, ?_⟩) (by assumption) ?_
  rotate_left
  · intro w hSw; (try dsimp only at hSw); go_simp <;> with_reducible rfl
  simp only [Act.put, List.setIfInBounds_toArray, List.set_cons_zero, List.set_cons_succ]
  refine wpAnyH_ready (rs := [9]) (by kernel_rfl) (by simp) ?_
  refine AllReadyH.cons (o := { dst := none, op := Op.store 81 (Operand.tmp 12) (Operand.tmp 11), type := 0, pos := "rows.go:27", after := #[{ on := 8, ground := Ground.data }, { on := 7, ground := Ground.data }, { on := 7, ground := Ground.chain }, { on := 0, ground := Ground.phase }, { on := 1, ground := Ground.phase }, { on := 2, ground := Ground.phase }, { on := 3, ground := Ground.phase }, { on := 4, ground := Ground.phase }, { on := 5, ground := Ground.phase }, { on := 6, ground := Ground.phase }, { on := 7, ground := Ground.phase }], guard := none }) rfl (fun K hK => ?_) AllReadyH.nil
  go_simp
  refine hK.out _ _ ?_ (fun hHeld => ?_)
  · trivial
  clear hK K
  try simp only [Act.put, List.setIfInBounds_toArray, List.set_cons_zero, List.set_cons_succ]
  refine wpAnyH_done (by kernel_rfl) ?_ _
  skip
  first | go_end0 | refine bodyPost_ret (results_none rfl _ _ _) rfl ?_
  exact ⟨rfl, g5, cap5, hX5.out.2.1, hX5.out.1.s0 _, hX5.out.2.2.1, hX5.out.2.2.2⟩
end Go.Proofs.YtjimiabfgmchiaaDoor
namespace Go.Proofs.YtjimiabfgmchiaaDoor
open Go.RowKit
theorem Fz.trans {a : Nat} {rowv : Value} {w w1 w2 : World} (h : Fz a rowv w w1) (k : Fz a rowv w1 w2) : Fz a rowv w w2 :=
  ⟨k.1.trans h.1, k.2.1.trans h.2.1, k.2.2.1.trans h.2.2.1, Nat.le_trans h.2.2.2.1 k.2.2.2.1, fun q hq ha hr => (k.2.2.2.2 q (Nat.lt_of_lt_of_le hq h.2.2.2.1) ha hr).trans (h.2.2.2.2 q hq ha hr)⟩
theorem owns_short2 {w : World} {n g cap : Nat} {f : Nat → Ent} (h : TH w (n + 1) f (.slice (some ⟨g, 0, none⟩) (n + 1) cap)) : TH w n f (.slice (some ⟨g, 0, none⟩) n cap) := by
  unfold TH at *
  rcases h.2 with ⟨h', _⟩ | ⟨g', cap', cur, h', hb, hg, hnc, hcm, hcs, htake⟩
  · simp at h'
  · simp only [Value.slice.injEq, Option.some.injEq, Addr.mk.injEq, and_true, true_and] at h'
    obtain ⟨rfl, rfl⟩ := h'
    refine ⟨by rw [prs_len]; omega, .inr ⟨g, cap, cur, rfl, hb, hg, by omega, hcm, hcs, ?_⟩⟩
    rw [← prs_take f n, ← htake, List.take_take, Nat.min_eq_left (by omega)]
    congr 1
    omega
set_option maxRecDepth 100000 in
set_option maxHeartbeats 4000000 in
theorem popT (a n g cap : Nat) (f : Nat → Ent) (hn : n ≤ 900) (w : World) (H : TH w (n + 1) f (.slice (some ⟨g, 0, none⟩) (n + 1) cap)) (hb : TB w a (.slice (some ⟨g, 0, none⟩) (n + 1) cap)) :
    Calls Tryd.prog 89 #[.pointer (some ⟨a, 0, none⟩)] w fun e w' => e = .returned (.iface 84 (.agg #[.int .i64 (f n).tm, .int .i64 (f n).turn])) ∧ TH w' n f (.slice (some ⟨g, 0, none⟩) n cap) ∧ TB w' a (.slice (some ⟨g, 0, none⟩) n cap) ∧ w.grownBy w' (some a) := by
  have c0 := hb.c0
  have f0 := hb.fz
  have cn : w.cell? ⟨g, n * 2, none⟩ = some (.int .i64 (f n).tm) := by rw [World.ownsRow.cellAt H (n * 2) (by omega)]; exact prs_tm f (by omega)
  have cn' : w.cell? ⟨g, n * 2 + 1, none⟩ = some (.int .i64 (f n).turn) := by rw [World.ownsRow.cellAt H (n * 2 + 1) (by omega)]; exact prs_turn f (by omega)
  have hga : g ≠ a := fun e => TB.far H hb (by rw [e]; rfl)
  have hlt := hb.lt
  have hcap : n + 1 ≤ cap := by
    rcases H.2 with ⟨h', _⟩ | ⟨g', cap', cur, h', _, _, hnc, _⟩
    · simp at h'
    · simp only [Value.slice.injEq] at h'; omega
  have hX : Hid (∀ o, TH ((w.setCell ⟨a, 0, none⟩ (.slice (some ⟨g, 0, none⟩) n cap)).alloc o) n f (.slice (some ⟨g, 0, none⟩) n cap) ∧ TB ((w.setCell ⟨a, 0, none⟩ (.slice (some ⟨g, 0, none⟩) n cap)).alloc o) a (.slice (some ⟨g, 0, none⟩) n cap) ∧ w.grownBy ((w.setCell ⟨a, 0, none⟩ (.slice (some ⟨g, 0, none⟩) n cap)).alloc o) (some a) ∧ TB (w.alloc o) a (.slice (some ⟨g, 0, none⟩) (n + 1) cap)) := fun o => by
    have h1 := owns_short2 H
    have h3 : TH (w.setCell ⟨a, 0, none⟩ (.slice (some ⟨g, 0, none⟩) n cap)) n f (.slice (some ⟨g, 0, none⟩) n cap) := by
      unfold TH at *
      refine ⟨h1.1, ?_⟩
      rcases h1.2 with ⟨hn1, _⟩ | ⟨g', cap', cur, e1, hb0, hgg, rest⟩
      · cases hn1
      · refine .inr ⟨g', cap', cur, e1, hb0, ?_, rest⟩
        cases e1
        rw [Below.heap_setCell _ _ _ _ hga]; exact hgg
    have h4 := hb.s0 (.slice (some ⟨g, 0, none⟩) n cap)
    have hB := (Below.refl _ (w.setCell ⟨a, 0, none⟩ (.slice (some ⟨g, 0, none⟩) n cap))).alloc (Nat.le_refl _) o
    refine ⟨TH.below h3 hB, h4.same (hB.block _ h4.lt), ⟨rfl, rfl, rfl, by simp [World.setCell], fun k hk hne => ?_⟩, hb.same (Below.heap_alloc _ _ _ hlt)⟩
    rw [Below.heap_alloc _ _ _ (by simp [World.setCell]; exact hk), Below.heap_setCell _ _ _ _ (fun e => hne (by rw [e]))]
  have hsl : ¬ cap < n := by omega
  generalize (f n).tm = xt at *
  generalize (f n).turn = xn at *
  have hY := hX.out (.cells #[.int .i64 xt, .int .i64 xn] 84)
  have cX := hY.2.2.2.c0
  have fX := hY.2.2.2.fz
  have hY' := hide' hY
  clear H hb hX hY
  go_enter Tryd.func89, Tryd.ntmps89
  go_wp2
  go_ret
  exact ⟨rfl, hY'.out.1, hY'.out.2.1, hY'.out.2.2.1⟩
set_option maxRecDepth 100000 in
set_option maxHeartbeats 4000000 in
theorem pushHT (a n : Nat) (rowv : Value) (f : Nat → Ent) (e : Ent) (hn : n ≤ 900) (w : World) (H : TH w n f rowv) (hH : IsHeap f n) (hb : TB w a rowv) :
    Calls Tryd.prog 34 #[.iface 79 (.pointer (some ⟨a, 0, none⟩)), .iface 84 (.agg #[.int .i64 e.tm, .int .i64 e.turn])] w fun e' w' => e' = .returned (.tuple #[]) ∧ ∃ g cap f', TH w' (n + 1) f' (.slice (some ⟨g, 0, none⟩) (n + 1) cap) ∧ TB w' a (.slice (some ⟨g, 0, none⟩) (n + 1) cap) ∧ IsHeap f' (n + 1) ∧ SameE (n + 1) (addE f n e) f' ∧ (rowv.ownBlock = some g ∨ w.heap.size ≤ g) ∧ Fz a rowv w w' := by
  have KP := hide' (pushT a n rowv f e hn w H hb)
  have hU : Hid (UpAt (addE f n e) (n + 1) n) := up_start (hH.congr fun k hk => addE_o f e (by omega))
  have e0 := mPush (228 - 1) (.pointer (some ⟨a, 0, none⟩)) w
  clear H hH hb
  go_enter Tryd.func34, Tryd.ntmps34
  go_wp2_with (first | (go_at_call 90; refine KP.out.mono ?_; rintro e' w1 ⟨rfl, g, cap, H1, B1, hg1, M1⟩; have H1' := hide' H1; have B1' := hide' B1; have M1' := hide' M1; have hg1' := hide' hg1; have e1 := mLen (228 - 1) a (some ⟨g, 0, none⟩) (n + 1) cap w1 B1.c0; have KU := hide' (upH a (n + 1) (n + 1) n g cap (addE f n e) (by omega) (Nat.le_refl _) (by omega) w1 H1 hU.out B1.c0 (fun x => TB.far H1 B1 (by rw [x]; rfl))); clear H1 B1 M1 hg1) | (go_at_call 35; refine (lenT _ _ _ _).mono ?_; rintro e' w2 ⟨rfl, hw2⟩; obtain rfl : w1 = w2 := hw2.symm) | (go_at_call 57; refine KU.out.mono ?_; rintro e' w3 ⟨rfl, h3, H3, hH3, hS3, _, M3⟩; have H3' := hide' H3; have hH3' := hide' hH3; have hS3' := hide' hS3; have M3' := hide' M3; clear H3 hH3 hS3 M3))
  first | go_end0 | refine bodyPost_ret (results_none rfl _ _ _) rfl ?_
  have hag : a ≠ g := fun x => TB.far H1'.out B1'.out (by rw [x]; rfl)
  refine ⟨rfl, g, cap, h3, H3'.out, B1'.out.same (M3'.out.block a B1'.out.lt (fun x => hag (by cases x; rfl))), hH3'.out, hS3'.out, hg1'.out, ?_⟩
  have hM := M1'.out
  refine ⟨M3'.out.os.trans hM.1, M3'.out.tape.trans hM.2.1, M3'.out.output.trans hM.2.2.1, Nat.le_trans hM.2.2.2.1 M3'.out.size, fun k hk ha hr => ?_⟩
  rw [M3'.out.block k (Nat.lt_of_lt_of_le hk hM.2.2.2.1) (fun x => ?_)]
  · exact hM.2.2.2.2 k hk ha hr
  · cases x
    rcases hg1'.out with y | y
    · exact hr y
    · omega
set_option maxRecDepth 100000 in
set_option maxHeartbeats 4000000 in
theorem down0T (a : Nat) (w : World) :
    Calls Tryd.prog 58 #[.iface 79 (.pointer (some ⟨a, 0, none⟩)), .int .i64 0, .int .i64 0] w fun e w' => e = .returned (.bool false) ∧ w' = w := by
  go_enter Tryd.func58, Tryd.ntmps58
  go_wp2
  refine wp_loop_rounds 1 ?_
  rw [rounds_succ]
  go_wp2
  go_ret
  exact ⟨rfl, rfl⟩
theorem downT (a n g cap : Nat) (f : Nat → Ent) (hn : n ≤ 900) (w : World) (H : TH w (n + 1) (swF f 0 n) (.slice (some ⟨g, 0, none⟩) (n + 1) cap)) (hH : IsHeap f (n + 1)) (hb : TB w a (.slice (some ⟨g, 0, none⟩) (n + 1) cap)) :
    Calls Tryd.prog 58 #[.iface 79 (.pointer (some ⟨a, 0, none⟩)), .int .i64 0, .int .i64 (n : Int)] w fun e w' => ∃ b, e = .returned (.bool b) ∧ ∃ f', Hid (TH w' (n + 1) f' (.slice (some ⟨g, 0, none⟩) (n + 1) cap)) ∧ Hid (SameE (n + 1) (swF f 0 n) f' ∧ f' n = f 0 ∧ IsHeap f' n) ∧ w.grownBy w' (some g) := by
  by_cases h0 : n = 0
  · subst h0
    refine (down0T a w).mono ?_
    rintro e w' ⟨rfl, rfl⟩
    exact ⟨_, rfl, swF f 0 0, H, ⟨SameE.refl _ _, swF_i f 0 0, fun k k0 hk => by omega⟩, World.grownBy.refl _ _⟩
  · refine (downH a (n + 1) n 0 g cap (swF f 0 n) (by omega) (by omega) (by omega) w H (dw_start hH (by omega)) hb.c0 (fun x => TB.far H hb (by rw [x]; rfl))).mono ?_
    rintro e w' ⟨b, rfl, f', H', hS, hT, hD, hM⟩
    refine ⟨b, rfl, f', H', ⟨hS, ?_, ?_⟩, hM⟩
    · rw [hT n (Nat.le_refl _), swF_j]
    · cases b with
      | true => exact hD.1 rfl
      | false => exact up_done (hD.2 rfl) (.inl rfl)
set_option maxRecDepth 100000 in
set_option maxHeartbeats 4000000 in
theorem popHT (a n g cap : Nat) (f : Nat → Ent) (hn : n ≤ 900) (w : World) (H : TH w (n + 1) f (.slice (some ⟨g, 0, none⟩) (n + 1) cap)) (hH : IsHeap f (n + 1)) (hb : TB w a (.slice (some ⟨g, 0, none⟩) (n + 1) cap)) :
    Calls Tryd.prog 36 #[.iface 79 (.pointer (some ⟨a, 0, none⟩))] w fun e w' => e = .returned (.iface 84 (.agg #[.int .i64 (f 0).tm, .int .i64 (f 0).turn])) ∧ ∃ f', Hid (TH w' n f' (.slice (some ⟨g, 0, none⟩) n cap)) ∧ Hid (TB w' a (.slice (some ⟨g, 0, none⟩) n cap)) ∧ Hid (SameE (n + 1) f f' ∧ f' n = f 0 ∧ IsHeap f' n) ∧ Hid (Fz a (.slice (some ⟨g, 0, none⟩) (n + 1) cap) w w') := by
  have hag : a ≠ g := fun x => TB.far H hb (by rw [x]; rfl)
  have e1 := mLen (228 - 1) a (some ⟨g, 0, none⟩) (n + 1) cap w hb.c0
  have e2 := mSwap (228 - 1) a (some ⟨g, 0, none⟩) (n + 1) cap w hb.c0
  have KS := hide' (swapT (n + 1) f 0 n (by omega) (by omega) (by omega) g cap w H)
  have hb' := hide' hb
  have hH' := hide' hH
  have hlt := hb.lt
  clear H hH hb
  go_enter Tryd.func36, Tryd.ntmps36
  go_wp2_with (first | (go_at_call 35; refine (lenT _ _ _ _).mono ?_; rintro e' w2 ⟨rfl, hw2⟩; obtain rfl : w = w2 := hw2.symm) | (go_at_call 91; refine KS.out.mono ?_; rintro e' w3 ⟨rfl, H3, M3⟩; have M3' := hide' M3; have B3 := hide' (hb'.out.same (M3.block a hlt (fun x => hag (by cases x; rfl)))); have KD := hide' (downT a n g cap f hn w3 H3 hH'.out B3.out); clear M3) | (go_at_call 58; refine KD.out.mono ?_; rintro e' w4 ⟨b4, rfl, f', H4, hS4, M4⟩; have M4' := hide' M4; have B4 := hide' (B3.out.same (M4.block a B3.out.lt (fun x => hag (by cases x; rfl)))); have e3 := mPop (228 - 1) (.pointer (some ⟨a, 0, none⟩)) w4; have KP := hide' (popT a n g cap f' hn w4 H4 B4.out); clear M4) | (go_at_call 89; refine KP.out.mono ?_; rintro e' w5 ⟨rfl, H5, B5, M5⟩; have H5' := hide' H5; have B5' := hide' B5; have M5' := hide' M5; clear H5 B5 M5))
  go_ret
  refine ⟨by rw [← hS4.out.2.1]; rfl, f', H5', B5', ⟨(SameE.sw f (by omega) (by omega)).trans hS4.out.1, hS4.out.2.1, hS4.out.2.2⟩, ?_⟩
  refine ⟨M5'.out.os.trans (M4'.out.os.trans M3'.out.os), M5'.out.tape.trans (M4'.out.tape.trans M3'.out.tape), M5'.out.output.trans (M4'.out.output.trans M3'.out.output), Nat.le_trans M3'.out.size (Nat.le_trans M4'.out.size M5'.out.size), fun k hk ha hr => ?_⟩
  have hkg : some k ≠ some g := fun x => hr (by show some g = some k; exact x.symm)
  rw [M5'.out.block k (Nat.lt_of_lt_of_le hk (Nat.le_trans M3'.out.size M4'.out.size)) (fun x => ha (by cases x; rfl)), M4'.out.block k (Nat.lt_of_lt_of_le hk M3'.out.size) hkg, M3'.out.block k hk hkg]
end Go.Proofs.YtjimiabfgmchiaaDoor
namespace Go.Proofs.YtjimiabfgmchiaaDoor
open Go.RowKit
theorem SameE.add {n : Nat} {f g : Nat → Ent} (e : Ent) (h : SameE n f g) : SameE (n + 1) (addE f n e) (addE g n e) := by
  obtain ⟨s, t, h1, h2⟩ := h
  refine ⟨fun k => if k = n then n else s k, fun k => if k = n then n else t k, fun k hk => ?_, fun k hk => ?_⟩
  · by_cases e1 : k = n
    · subst e1; simp [addE]
    · obtain ⟨a1, a2, a3⟩ := h1 k (by omega)
      simp only [if_neg e1, addE]
      refine ⟨by omega, ?_, ?_⟩
      · rw [if_neg (by omega)]; exact a2
      · rw [if_neg (by omega)]; exact a3
  · by_cases e1 : k = n
    · subst e1; simp
    · obtain ⟨a1, a2⟩ := h2 k (by omega)
      simp only [if_neg e1]
      exact ⟨by omega, by rw [if_neg (by omega)]; exact a2⟩
/-- The entry of a place. -/
def entP (p : Nat → Int) (k : Fin 64) : Ent := ⟨0, p k.val, (k.val : Int)⟩
/-- The heap with what is laid behind. -/
def ext (f : Nat → Ent) (m : Nat) (p : Nat → Int) (l : List (Fin 64)) (k : Nat) : Ent := if k < m then f k else entP p (l.getD (k - m) 0)
theorem ext_nil (f : Nat → Ent) (m : Nat) (p : Nat → Int) : SameE m (ext f m p []) f := ⟨id, id, fun k hk => ⟨hk, by unfold ext; simp [hk], rfl⟩, fun _ hk => ⟨hk, rfl⟩⟩
theorem ext_snoc (f : Nat → Ent) (m : Nat) (p : Nat → Int) (l : List (Fin 64)) (x : Fin 64) : SameE (m + l.length + 1) (ext f m p (l ++ [x])) (addE (ext f m p l) (m + l.length) (entP p x)) := by
  refine ⟨id, id, fun k hk => ⟨hk, ?_, rfl⟩, fun _ hk => ⟨hk, rfl⟩⟩
  show addE (ext f m p l) (m + l.length) (entP p x) k = ext f m p (l ++ [x]) k
  unfold addE ext
  by_cases e1 : k = m + l.length
  · subst e1
    rw [if_pos rfl, if_neg (by omega)]
    congr 1
    simp
  · rw [if_neg e1]
    by_cases e2 : k < m
    · rw [if_pos e2, if_pos e2]
    · rw [if_neg e2, if_neg e2]
      congr 1
      rw [List.getD_eq_getElem?_getD, List.getD_eq_getElem?_getD, List.getElem?_append_left (by omega)]
/-- Blocks that hold neither a row of turns nor a variable of such stand as they stood. -/
structure FzT (W W' : World) : Prop where
  size : W.heap.size ≤ W'.heap.size
  block : ∀ k, k < W.heap.size → (∀ c e f, W.heap[k]? = some (.cells c e f) → e ≠ 81 ∧ e ≠ 84) → W'.heap[k]? = W.heap[k]?
theorem FzT.refl (W : World) : FzT W W := ⟨Nat.le_refl _, fun _ _ _ => rfl⟩
theorem FzT.trans {W W' W2 : World} (h : FzT W W') (k : FzT W' W2) : FzT W W2 := ⟨Nat.le_trans h.size k.size, fun b hb hc => by
  have e := h.block b hb hc
  rw [k.block b (Nat.lt_of_lt_of_le hb h.size) (fun c t f hh => hc c t f (by rw [← e]; exact hh)), e]⟩
theorem FzT.below {W W' : World} (h : Below W.heap.size W W') : FzT W W' := ⟨h.size, fun b hb _ => h.block b hb⟩
/-- The heap in memory: the variable, its row, all of one's own. -/
def HpV (B q : Nat) (W : World) (m : Nat) (g : Nat → Ent) : Prop := B ≤ q ∧ ∃ rv f, TB W q rv ∧ TH W m f rv ∧ IsHeap f m ∧ SameE m g f ∧ ∀ b, rv.ownBlock = some b → B ≤ b
theorem HpV.below {B q : Nat} {W W' : World} {m : Nat} {g : Nat → Ent} (h : HpV B q W m g) (hb : Below W.heap.size W W') : HpV B q W' m g := by
  obtain ⟨hq, rv, f, h1, h2, h3, h4, h5⟩ := h
  exact ⟨hq, rv, f, h1.same (hb.block q h1.lt), TH.below h2 hb, h3, h4, h5⟩
theorem fz_types {q m : Nat} {f : Nat → Ent} {rv : Value} {W W' : World} (h1 : TB W q rv) (h2 : TH W m f rv) (h : Fz q rv W W') : FzT W W' := ⟨h.2.2.2.1, fun k hk hc => by
  refine h.2.2.2.2 k hk (fun e => ?_) (fun e => ?_)
  · subst e
    exact absurd rfl (hc _ _ _ h1).1
  · obtain ⟨c1, f1, h3⟩ := Go.Lib.ownsRow_kind h2 _ e
    exact absurd rfl (hc _ _ _ h3).2⟩
theorem fz_below {B q : Nat} {rv : Value} {W W' : World} (hB : B ≤ W.heap.size) (hq : B ≤ q) (hr : ∀ b, rv.ownBlock = some b → B ≤ b) (h : Fz q rv W W') : Below B W W' :=
  ⟨h.1, h.2.1, h.2.2.1, h.2.2.2.1, fun k hk => h.2.2.2.2 k (by omega) (by omega) (fun e => by have := hr k e; omega)⟩
theorem hpvPush {B q : Nat} {W : World} {m : Nat} {g : Nat → Ent} (h : HpV B q W m g) (hm : m ≤ 900) (hB : B ≤ W.heap.size) (e : Ent) :
    Calls Tryd.prog 34 #[.iface 79 (.pointer (some ⟨q, 0, none⟩)), .iface 84 (.agg #[.int .i64 e.tm, .int .i64 e.turn])] W fun e' w' => e' = .returned (.tuple #[]) ∧ Hid (HpV B q w' (m + 1) (addE g m e)) ∧ Hid (FzT W w') ∧ Hid (Below B W w') := by
  obtain ⟨hq, rv, f, h1, h2, h3, h4, h5⟩ := h
  refine (pushHT q m rv f e hm W h2 h3 h1).mono ?_
  rintro e' w' ⟨rfl, g2, cap2, f', a1, a2, a3, a4, a5, a6⟩
  refine ⟨rfl, ⟨hq, _, f', a2, a1, a3, (h4.add e).trans a4, fun b hb => ?_⟩, fz_types h1 h2 a6, fz_below hB hq h5 a6⟩
  have hb' : g2 = b := by simpa [Value.ownBlock] using hb
  subst hb'
  rcases a5 with a5 | a5
  · exact h5 _ a5
  · omega
/-- What Pop takes: the least. -/
theorem hpvPop {B q : Nat} {W : World} {m : Nat} {g : Nat → Ent} (h : HpV B q W (m + 1) g) (hm : m ≤ 900) (hB : B ≤ W.heap.size) :
    Calls Tryd.prog 36 #[.iface 79 (.pointer (some ⟨q, 0, none⟩))] W fun e' w' => ∃ (x : Ent) (g' : Nat → Ent), e' = .returned (.iface 84 (.agg #[.int .i64 x.tm, .int .i64 x.turn])) ∧ Hid (HpV B q w' m g') ∧ Hid (SameE (m + 1) g (addE g' m x) ∧ ∀ k, k < m + 1 → ¬ ltE (g k) x) ∧ Hid (FzT W w') ∧ Hid (Below B W w') := by
  obtain ⟨hq, rv, f, h1, h2, h3, h4, h5⟩ := h
  obtain ⟨oa, cap, rfl⟩ := own_form2 h2
  obtain ⟨gr, rfl⟩ : ∃ gr, oa = some ⟨gr, 0, none⟩ := by
    rcases h2.2 with ⟨e, _⟩ | ⟨g', cap', cur, e, _⟩
    · cases e
    · cases e; exact ⟨_, rfl⟩
  refine (popHT q m gr cap f hm W h2 h3 h1).mono ?_
  rintro e' w' ⟨rfl, f', a1, a2, a3, a4⟩
  refine ⟨f 0, f', rfl, ⟨hq, _, f', a2.out, a1.out, a3.out.2.2, SameE.refl _ _, h5⟩, ⟨?_, ?_⟩, fz_types h1 h2 a4.out, fz_below hB hq h5 a4.out⟩
  · refine (h4.trans a3.out.1).trans ⟨id, id, fun k hk => ⟨hk, ?_, rfl⟩, fun _ hk => ⟨hk, rfl⟩⟩
    show addE f' m (f 0) k = f' k
    unfold addE
    by_cases e : k = m
    · rw [if_pos e, e]; exact a3.out.2.1.symm
    · rw [if_neg e]
  · intro k hk
    obtain ⟨s, t, b1, b2⟩ := h4
    obtain ⟨c1, c2⟩ := b2 k hk
    have := heap_root h3 (t k) c1
    rw [(b1 (t k) c1).2.1, c2] at this
    exact this
theorem th_grown {W W' : World} {n : Nat} {f : Nat → Ent} {v : Value} {row : Option Nat} (h : TH W n f v) (hg : W.grownBy W' row) (hr : ∀ r, row = some r → ∃ o : Obj, W.heap[r]? = some o ∧ o.isCells = false) : TH W' n f v := by
  unfold TH at *
  refine ⟨h.1, ?_⟩
  rcases h.2 with hn | ⟨g, cap, cur, rfl, hb0, hgg, rest⟩
  · exact .inl hn
  · refine .inr ⟨g, cap, cur, rfl, hb0, ?_, rest⟩
    rw [hg.block g (Array.getElem?_eq_some_iff.1 hgg).1 (fun e => ?_)]
    · exact hgg
    · obtain ⟨o, ho, hc⟩ := hr g e.symm
      rw [hgg] at ho
      cases ho
      cases hc
theorem tb_grown {W W' : World} {a : Nat} {v : Value} {row : Option Nat} (h : TB W a v) (hg : W.grownBy W' row) (hr : ∀ r, row = some r → ∃ o : Obj, W.heap[r]? = some o ∧ o.isCells = false) : TB W' a v := by
  refine h.same (hg.block a h.lt (fun e => ?_))
  obtain ⟨o, ho, hc⟩ := hr a e.symm
  unfold TB at h
  rw [h] at ho
  cases ho
  cases hc
theorem hpv_own {β : Type} (B q B' : Nat) (k : β → Nat) (g : β → Nat → Ent) : OwnFrom B' (fun s W => HpV B q W (k s) (g s)) := fun s W W' row h hg hr => by
  obtain ⟨hq, rv, f, h1, h2, h3, h4, h5⟩ := h
  exact ⟨hq, rv, f, tb_grown h1 hg (fun r e => (hr r e).2), th_grown h2 hg (fun r e => (hr r e).2), h3, h4, h5⟩
theorem fzt_own {β : Type} (w0 : World) (B' : Nat) (hB : w0.heap.size ≤ B') : OwnFrom B' (fun (_ : β) W => FzT w0 W) := fun s W W' row h hg hr =>
  ⟨Nat.le_trans h.size hg.size, fun k hk hc => by
    rw [hg.block k (Nat.lt_of_lt_of_le hk h.size) (fun e => by have := (hr k e.symm).1; omega)]
    exact h.block k hk hc⟩
end Go.Proofs.YtjimiabfgmchiaaDoor
