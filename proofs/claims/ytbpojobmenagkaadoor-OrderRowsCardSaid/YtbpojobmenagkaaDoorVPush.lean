/- turns.Push, turns.Pop, turns.Len; container/heap's Push and Pop over them. -/
import Derived.Test.YtbpojobmenagkaaDoorVDown
import Derived.Test.YtbpojobmenagkaaDoorKApp
import Derived.Maps.AppendAt
namespace Go.Proofs.YtbpojobmenagkaaDoor
open Go.RowKit
theorem infoT : (Tryd.prog.info? 60).map (fun i => (i.zero, i.size, i.bytes)) = some (some (.agg #[.int .i64 0, .int .i64 0]), 2, 16) := by kernel_rfl
/-- The variable that holds the row. -/
def TB (w : World) (a : Nat) (rowv : Value) : Prop := w.heap[a]? = some (.cells #[rowv] 52 (0, 0))
section
variable {w w' : World} {a : Nat} {rowv : Value}
theorem TB.lt (h : TB w a rowv) : a < w.heap.size := (Array.getElem?_eq_some_iff.1 h).1
theorem TB.c0 (h : TB w a rowv) : w.cell? ⟨a, 0, none⟩ = some rowv := by unfold TB at h; simp [World.cell?, h]
theorem TB.fz (h : TB w a rowv) : w.frozen? ⟨a, 0, none⟩ = false := frozen_of_row w a 0 _ _ h
theorem TB.same (h : TB w a rowv) (hs : w'.heap[a]? = w.heap[a]?) : TB w' a rowv := hs.trans h
theorem TB.s0 (h : TB w a rowv) (u : Value) : TB (w.setCell ⟨a, 0, none⟩ u) a u := by
  have := heap_setCell_same w a 0 _ _ u h; simpa [TB] using this
end
/-- The variable's block is not the row's. -/
theorem TB.far {w : World} {a n : Nat} {f : Nat → Ent} {rowv rv : Value} (H : TH w n f rowv) (hb : TB w a rv) : rowv.ownBlock ≠ some a := fun e => by
  obtain ⟨c1, f1, h1⟩ := Go.Lib.ownsRow_kind H _ e
  unfold TB at hb
  rw [h1] at hb
  simp at hb
/-- One more at the end. -/
def addE (f : Nat → Ent) (n : Nat) (e : Ent) (k : Nat) : Ent := if k = n then e else f k
theorem addE_n (f : Nat → Ent) (n : Nat) (e : Ent) : addE f n e n = e := if_pos rfl
theorem addE_o (f : Nat → Ent) {n k : Nat} (e : Ent) (hk : k ≠ n) : addE f n e k = f k := if_neg hk
theorem prs_snoc (f : Nat → Ent) (n : Nat) (e : Ent) : prs (addE f n e) (n + 1) = prs f n ++ [.int .i64 e.tm, .int .i64 e.turn] := by
  refine List.ext_getElem? fun c => ?_
  by_cases hc : c < 2 * n
  · rw [prs_cell _ (by omega), List.getElem?_append_left (by rw [prs_len]; exact hc), prs_cell _ hc]
    congr 2
    unfold valE
    rw [addE_o f e (by omega)]
  · rw [List.getElem?_append_right (by rw [prs_len]; omega), prs_len]
    by_cases h1 : c = n * 2
    · subst h1
      rw [prs_cell _ (by omega), val_tm, addE_n, show n * 2 - 2 * n = 0 by omega]; rfl
    · by_cases h2 : c = n * 2 + 1
      · subst h2
        rw [prs_cell _ (by omega), val_turn, addE_n, show n * 2 + 1 - 2 * n = 1 by omega]; rfl
      · rw [prs_none _ (by omega)]
        symm
        exact List.getElem?_eq_none (by simp; omega)
theorem prs_take (f : Nat → Ent) (n : Nat) : (prs f (n + 1)).take (2 * n) = prs f n := by
  refine List.ext_getElem? fun c => ?_
  rw [List.getElem?_take]
  by_cases hc : c < 2 * n
  · rw [if_pos hc, prs_cell _ (by omega), prs_cell _ hc]
  · rw [if_neg hc, prs_none _ hc]
theorem assertT (v : Value) (w : World) : (Instr.typeAssert (.iface 60 v) 20 60 false).run Tryd.prog w = .ok v w := by kernel_rfl
theorem heap_newV (w : World) (o : Obj) : (w.alloc o).heap[w.heap.size]? = some o := by
  show (w.heap.push o)[w.heap.size]? = some o
  simp
theorem lenT (o : Option Addr) (n cap : Nat) (w : World) : Calls Tryd.prog 21 #[.slice o n cap] w fun e w' => e = .returned (.int .i64 n) ∧ w' = w := by
  go_enter Tryd.func21, Tryd.ntmps21
  go_wp2
  go_ret
  exact ⟨rfl, rfl⟩
/-- The row's block, the variable's: nothing else is turned. -/
def Fz (a : Nat) (rowv : Value) (w w' : World) : Prop := w'.os = w.os ∧ w'.tape = w.tape ∧ w'.output = w.output ∧ w.heap.size ≤ w'.heap.size ∧ ∀ k, k < w.heap.size → k ≠ a → rowv.ownBlock ≠ some k → w'.heap[k]? = w.heap[k]?
theorem own_form2 {w : World} {n : Nat} {f : Nat → Ent} {v : Value} (h : TH w n f v) : ∃ oa cap, v = .slice oa n cap := by
  rcases h.2 with ⟨rfl, rfl⟩ | ⟨g, cap, cur, rfl, _⟩
  · exact ⟨_, _, rfl⟩
  · exact ⟨_, _, rfl⟩
set_option maxRecDepth 100000 in
set_option maxHeartbeats 4000000 in
theorem pushT (a n : Nat) (rowv : Value) (f : Nat → Ent) (e : Ent) (hn : n ≤ 900) (w : World) (H : TH w n f rowv) (hb : TB w a rowv) :
    Calls Tryd.prog 76 #[.pointer (some ⟨a, 0, none⟩), .iface 60 (.agg #[.int .i64 e.tm, .int .i64 e.turn])] w fun e' w' => e' = .returned (.tuple #[]) ∧ ∃ g cap, TH w' (n + 1) (addE f n e) (.slice (some ⟨g, 0, none⟩) (n + 1) cap) ∧ TB w' a (.slice (some ⟨g, 0, none⟩) (n + 1) cap) ∧ (rowv.ownBlock = some g ∨ w.heap.size ≤ g) ∧ Fz a rowv w w' := by
  obtain ⟨iT, hiT, hz0, hz1, hz2⟩ := info_parts infoT
  have hta := assertT (.agg #[.int .i64 e.tm, .int .i64 e.turn])
  have ca := hb.c0
  have hfar := hide' (TB.far H hb)
  have hlt := hb.lt
  obtain ⟨og, cg, rfl⟩ := own_form2 H
  have hO : Hid (∀ o, (w.drew.alloc o).ownsRow 0 60 2 (.slice og n cg) n (prs f n)) := fun o => (World.ownsRow.drew H).alloc o
  have hnb := hide' (World.news_of_block (cs := #[.int .i64 e.tm, .int .i64 e.turn]) (B := w.heap.size) (w := w.drew.alloc (.cells #[.int .i64 e.tm, .int .i64 e.turn] 60)) (by have := heap_newV w.drew (.cells #[.int .i64 e.tm, .int .i64 e.turn] 60); exact this))
  have hX : Hid (∀ g5 cap5 w5, w5.ownsRow 0 60 2 (.slice (some ⟨g5, 0, none⟩) (n + 1) cap5) (n + 1) (prs f n ++ [.int .i64 e.tm, .int .i64 e.turn]) → ((.slice og n cg = Value.slice (some ⟨g5, 0, none⟩) n cap5 ∧ (w.drew.alloc (.cells #[.int .i64 e.tm, .int .i64 e.turn] 60)).grownBy w5 (some g5)) ∨ (g5 = (w.drew.alloc (.cells #[.int .i64 e.tm, .int .i64 e.turn] 60)).heap.size ∧ (w.drew.alloc (.cells #[.int .i64 e.tm, .int .i64 e.turn] 60)).grownBy w5 none)) →
      TB w5 a (.slice og n cg) ∧ TH (w5.setCell ⟨a, 0, none⟩ (.slice (some ⟨g5, 0, none⟩) (n + 1) cap5)) (n + 1) (addE f n e) (.slice (some ⟨g5, 0, none⟩) (n + 1) cap5) ∧ ((Value.slice og n cg).ownBlock = some g5 ∨ w.heap.size ≤ g5) ∧ Fz a (.slice og n cg) w (w5.setCell ⟨a, 0, none⟩ (.slice (some ⟨g5, 0, none⟩) (n + 1) cap5))) := fun g5 cap5 w5 h1 h2 => by
    have hz : (w.drew.alloc (.cells #[.int .i64 e.tm, .int .i64 e.turn] 60)).heap.size = w.heap.size + 1 := by rw [World.size_alloc]; rfl
    have hg5 : (Value.slice og n cg).ownBlock = some g5 ∨ w.heap.size < g5 := by
      rcases h2 with ⟨e1, _⟩ | ⟨e1, _⟩
      · exact .inl (by rw [e1]; rfl)
      · exact .inr (by omega)
    have hgw : w.heap.size ≤ w5.heap.size ∧ w5.os = w.os ∧ w5.tape = w.tape ∧ w5.output = w.output ∧ ∀ k, k < w.heap.size → (Value.slice og n cg).ownBlock ≠ some k → w5.heap[k]? = w.heap[k]? := by
      rcases h2 with ⟨e1, hg⟩ | ⟨_, hg⟩
      · refine ⟨by have := hg.size; omega, hg.os, hg.tape, hg.output, fun k hk hne => ?_⟩
        rw [hg.block k (by omega) (fun e2 => hne (by rw [e1]; exact e2.symm)), Below.heap_alloc _ _ _ (show k < w.drew.heap.size from hk)]
        rfl
      · refine ⟨by have := hg.size; omega, hg.os, hg.tape, hg.output, fun k hk _ => ?_⟩
        rw [hg.block k (by omega) (by simp), Below.heap_alloc _ _ _ (show k < w.drew.heap.size from hk)]
        rfl
    have hga : g5 ≠ a := fun e1 => by
      subst e1
      rcases hg5 with h | h
      · exact hfar.out h
      · omega
    have hB5 : TB w5 a (.slice og n cg) := hb.same (hgw.2.2.2.2 a hlt hfar.out)
    refine ⟨hB5, ?_, hg5.imp id (fun h => by omega), ⟨hgw.2.1, hgw.2.2.1, hgw.2.2.2.1, by simp [World.setCell]; exact hgw.1, fun k hk hka hne => ?_⟩⟩
    · unfold TH
      rw [prs_snoc]
      refine ⟨h1.1, ?_⟩
      rcases h1.2 with ⟨hn1, _⟩ | ⟨g', cap', cur, e1, hb0, hgg, rest⟩
      · cases hn1
      · refine .inr ⟨g', cap', cur, e1, hb0, ?_, rest⟩
        cases e1
        rw [Below.heap_setCell _ _ _ _ hga]; exact hgg
    · rw [Below.heap_setCell _ _ _ _ hka]; exact hgw.2.2.2.2 k hk hne
  clear H hb
  go_enter Tryd.func76, Tryd.ntmps76
  go_wp2
  refine wp_region_held_drew (S := (fun _ => True)) (by kernel_rfl) ?_ (fun hHeld => ?_)
  · trivial
  refine wpAnyH_take (i := 0) (oi := { dst := some 4, op := Op.move (Operand.tmp 0), type := 50, pos := "rows.go:27", after := #[], guard := none }) (v := ?_) rfl (by kernel_rfl) (by kernel_rfl) (by kernel_rfl) (fun _ _ _ h => h) (Or.inl ⟨by rfl, ?_⟩) (by assumption) ?_
  rotate_left
  · intro w hSw; (try dsimp only at hSw); go_simp <;> with_reducible rfl
  simp only [Act.put, List.setIfInBounds_toArray, List.set_cons_zero, List.set_cons_succ]
  refine wpAnyH_take (i := 1) (oi := { dst := some 5, op := Op.move (Operand.tmp 0), type := 50, pos := "rows.go:27", after := #[], guard := none }) (v := ?_) rfl (by kernel_rfl) (by kernel_rfl) (by kernel_rfl) (fun _ _ _ h => h) (Or.inl ⟨by rfl, ?_⟩) (by assumption) ?_
  rotate_left
  · intro w hSw; (try dsimp only at hSw); go_simp <;> with_reducible rfl
  simp only [Act.put, List.setIfInBounds_toArray, List.set_cons_zero, List.set_cons_succ]
  refine wpAnyH_take (i := 2) (oi := { dst := some 6, op := Op.nilCheck (Operand.tmp 5), type := 0, pos := "rows.go:27", after := #[{ on := 1, ground := Ground.data }], guard := none }) (v := ?_) rfl (by kernel_rfl) (by kernel_rfl) (by kernel_rfl) (fun _ _ _ h => h) (Or.inl ⟨by rfl, ?_⟩) (by assumption) ?_
  rotate_left
  · intro w hSw; (try dsimp only at hSw); go_simp <;> with_reducible rfl
  simp only [Act.put, List.setIfInBounds_toArray, List.set_cons_zero, List.set_cons_succ]
  refine wpAnyH_take (i := 4) (oi := { dst := some 8, op := Op.move (Operand.tmp 1), type := 20, pos := "rows.go:27", after := #[], guard := none }) (v := ?_) rfl (by kernel_rfl) (by kernel_rfl) (by kernel_rfl) (fun _ _ _ h => h) (Or.inl ⟨by rfl, ?_⟩) (by assumption) ?_
  rotate_left
  · intro w hSw; (try dsimp only at hSw); go_simp <;> with_reducible rfl
  simp only [Act.put, List.setIfInBounds_toArray, List.set_cons_zero, List.set_cons_succ]
  refine wpAnyH_take (i := 5) (oi := { dst := some 9, op := Op.typeAssert (Operand.tmp 8) 20 60 false, type := 60, pos := "rows.go:27", after := #[{ on := 4, ground := Ground.data }], guard := none }) (v := ?_) rfl (by kernel_rfl) (by kernel_rfl) (by kernel_rfl) (fun _ _ _ h => h) (Or.inl ⟨by rfl, ?_⟩) (by assumption) ?_
  rotate_left
  · intro w hSw; (try dsimp only at hSw); go_simp <;> with_reducible rfl
  simp only [Act.put, List.setIfInBounds_toArray, List.set_cons_zero, List.set_cons_succ]
  refine wpAnyH_ready (rs := [3, 6]) (by kernel_rfl) (by simp) ?_
  refine AllReadyH.cons (o := { dst := some 7, op := Op.load 52 (Operand.tmp 6), type := 52, pos := "rows.go:27", after := #[{ on := 2, ground := Ground.data }], guard := none }) rfl (fun K hK => ?_) ?_
  · skip
    go_simp
    refine hK.out _ _ ?_ (fun hHeld => ?_)
    · trivial
    clear hK K
    try simp only [Act.put, List.setIfInBounds_toArray, List.set_cons_zero, List.set_cons_succ]
    refine wpAnyH_ready (rs := [6]) (by kernel_rfl) (by simp) ?_
    refine AllReadyH.cons (o := { dst := some 10, op := Op.buildSlice 52 1 #[(0, Operand.tmp 9)], type := 52, pos := "rows.go:27", after := #[{ on := 5, ground := Ground.data }], guard := none }) rfl (fun K hK => ?_) AllReadyH.nil
    go_simp
    refine hK.out _ _ ?_ (fun hHeld => ?_)
    · trivial
    clear hK K
    try simp only [Act.put, List.setIfInBounds_toArray, List.set_cons_zero, List.set_cons_succ]
    refine wpAnyH_ready (rs := [7]) (by kernel_rfl) (by simp) ?_
    refine AllReadyH.cons (o := { dst := some 11, op := Op.call { callee := Callee.builtin Builtin.append, args := #[Operand.tmp 7, Operand.tmp 10], argTypes := #[52, 52] }, type := 52, pos := "rows.go:27", after := #[{ on := 3, ground := Ground.data }, { on := 6, ground := Ground.data }], guard := none }) rfl (fun K hK => ?_) AllReadyH.nil
    rw [if_pos (by rfl)]
    refine _root_.Go.Proofs.YtbpojobmenagkaaDoor.K.wp_append_two _ (.tmp 7) (.tmp 10) 52 rfl 0 60 iT (.agg #[.int .i64 0, .int .i64 0]) 2 16 Tryd.underlying52 hiT hz0 hz1 hz2 rfl (by decide) (.slice og n cg) n (prs f n) rfl (hO.out _) ⟨w.heap.size, 0, none⟩ 1 1 [.int .i64 e.tm, .int .i64 e.turn] rfl rfl hnb.out (by simp [Value.oneCell']) (by decide) (by unfold maxLen; omega) (by omega) (Nat.zero_le _) ?_; intro g5 cap5 w5 hnew5 hold5 hat5; have hX5 := hide' (hX.out g5 cap5 w5 hnew5 hat5); have cX := hX5.out.1.c0; have fX := hX5.out.1.fz; clear hnew5 hold5 hat5; (try dsimp only)
    refine hK.out _ _ ?_ (fun hHeld => ?_)
    · trivial
    clear hK K
    try simp only [Act.put, List.setIfInBounds_toArray, List.set_cons_zero, List.set_cons_succ]
    refine wpAnyH_take (i := 8) (oi := { dst := some 12, op := Op.nilCheck (Operand.tmp 4), type := 0, pos := "rows.go:27", after := #[{ on := 0, ground := Ground.data }, { on := 0, ground := Ground.phase }, { on := 1, ground := Ground.phase }, { on := 2, ground := Ground.phase }, { on := 3, ground := Ground.phase }, { on := 4, ground := Ground.phase }, { on := 5, ground := Ground.phase }, { on := 6, ground := Ground.phase }, { on := 7, ground := Ground.phase }], guard := none }) (v := ?_) rfl (by kernel_rfl) (by kernel_rfl) (by kernel_rfl) (fun _ _ _ h => h) (Or.inl ⟨by rfl, ?_⟩) (by assumption) ?_
    rotate_left
    · intro w hSw; (try dsimp only at hSw); go_simp <;> with_reducible rfl
    simp only [Act.put, List.setIfInBounds_toArray, List.set_cons_zero, List.set_cons_succ]
    refine wpAnyH_ready (rs := [9]) (by kernel_rfl) (by simp) ?_
    refine AllReadyH.cons (o := { dst := none, op := Op.store 52 (Operand.tmp 12) (Operand.tmp 11), type := 0, pos := "rows.go:27", after := #[{ on := 8, ground := Ground.data }, { on := 7, ground := Ground.data }, { on := 7, ground := Ground.chain }, { on := 0, ground := Ground.phase }, { on := 1, ground := Ground.phase }, { on := 2, ground := Ground.phase }, { on := 3, ground := Ground.phase }, { on := 4, ground := Ground.phase }, { on := 5, ground := Ground.phase }, { on := 6, ground := Ground.phase }, { on := 7, ground := Ground.phase }], guard := none }) rfl (fun K hK => ?_) AllReadyH.nil
    go_simp
    refine hK.out _ _ ?_ (fun hHeld => ?_)
    · trivial
    clear hK K
    try simp only [Act.put, List.setIfInBounds_toArray, List.set_cons_zero, List.set_cons_succ]
    refine wpAnyH_done (by kernel_rfl) ?_ _
    skip
    first | go_end0 | refine bodyPost_ret (results_none rfl _ _ _) rfl ?_
    exact ⟨rfl, g5, cap5, hX5.out.2.1, hX5.out.1.s0 _, hX5.out.2.2.1, hX5.out.2.2.2⟩
  refine AllReadyH.cons (o := { dst := some 10, op := Op.buildSlice 52 1 #[(0, Operand.tmp 9)], type := 52, pos := "rows.go:27", after := #[{ on := 5, ground := Ground.data }], guard := none }) rfl (fun K hK => ?_) AllReadyH.nil
  go_simp
  refine hK.out _ _ ?_ (fun hHeld => ?_)
  · trivial
  clear hK K
  try simp only [Act.put, List.setIfInBounds_toArray, List.set_cons_zero, List.set_cons_succ]
  refine wpAnyH_ready (rs := [3]) (by kernel_rfl) (by simp) ?_
  refine AllReadyH.cons (o := { dst := some 7, op := Op.load 52 (Operand.tmp 6), type := 52, pos := "rows.go:27", after := #[{ on := 2, ground := Ground.data }], guard := none }) rfl (fun K hK => ?_) AllReadyH.nil
  go_simp
  refine hK.out _ _ ?_ (fun hHeld => ?_)
  · trivial
  clear hK K
  try simp only [Act.put, List.setIfInBounds_toArray, List.set_cons_zero, List.set_cons_succ]
  refine wpAnyH_ready (rs := [7]) (by kernel_rfl) (by simp) ?_
  refine AllReadyH.cons (o := { dst := some 11, op := Op.call { callee := Callee.builtin Builtin.append, args := #[Operand.tmp 7, Operand.tmp 10], argTypes := #[52, 52] }, type := 52, pos := "rows.go:27", after := #[{ on := 3, ground := Ground.data }, { on := 6, ground := Ground.data }], guard := none }) rfl (fun K hK => ?_) AllReadyH.nil
  rw [if_pos (by rfl)]
  refine _root_.Go.Proofs.YtbpojobmenagkaaDoor.K.wp_append_two _ (.tmp 7) (.tmp 10) 52 rfl 0 60 iT (.agg #[.int .i64 0, .int .i64 0]) 2 16 Tryd.underlying52 hiT hz0 hz1 hz2 rfl (by decide) (.slice og n cg) n (prs f n) rfl (hO.out _) ⟨w.heap.size, 0, none⟩ 1 1 [.int .i64 e.tm, .int .i64 e.turn] rfl rfl hnb.out (by simp [Value.oneCell']) (by decide) (by unfold maxLen; omega) (by omega) (Nat.zero_le _) ?_; intro g5 cap5 w5 hnew5 hold5 hat5; have hX5 := hide' (hX.out g5 cap5 w5 hnew5 hat5); have cX := hX5.out.1.c0; have fX := hX5.out.1.fz; clear hnew5 hold5 hat5; (try dsimp only)
  refine hK.out _ _ ?_ (fun hHeld => ?_)
  · trivial
  clear hK K
  try simp only [Act.put, List.setIfInBounds_toArray, List.set_cons_zero, List.set_cons_succ]
  refine wpAnyH_take (i := 8) (oi := { dst := some 12, op := Op.nilCheck (Operand.tmp 4), type := 0, pos := "rows.go:27", after := #[{ on := 0, ground := Ground.data }, { on := 0, ground := Ground.phase }, { on := 1, ground := Ground.phase }, { on := 2, ground := Ground.phase }, { on := 3, ground := Ground.phase }, { on := 4, ground := Ground.phase }, { on := 5, ground := Ground.phase }, { on := 6, ground := Ground.phase }, { on := 7, ground := Ground.phase }], guard := none }) (v := ?_) rfl (by kernel_rfl) (by kernel_rfl) (by kernel_rfl) (fun _ _ _ h => h) (Or.inl ⟨by rfl, ?_⟩) (by assumption) ?_
  rotate_left
  · intro w hSw; (try dsimp only at hSw); go_simp <;> with_reducible rfl
  simp only [Act.put, List.setIfInBounds_toArray, List.set_cons_zero, List.set_cons_succ]
  refine wpAnyH_ready (rs := [9]) (by kernel_rfl) (by simp) ?_
  refine AllReadyH.cons (o := { dst := none, op := Op.store 52 (Operand.tmp 12) (Operand.tmp 11), type := 0, pos := "rows.go:27", after := #[{ on := 8, ground := Ground.data }, { on := 7, ground := Ground.data }, { on := 7, ground := Ground.chain }, { on := 0, ground := Ground.phase }, { on := 1, ground := Ground.phase }, { on := 2, ground := Ground.phase }, { on := 3, ground := Ground.phase }, { on := 4, ground := Ground.phase }, { on := 5, ground := Ground.phase }, { on := 6, ground := Ground.phase }, { on := 7, ground := Ground.phase }], guard := none }) rfl (fun K hK => ?_) AllReadyH.nil
  go_simp
  refine hK.out _ _ ?_ (fun hHeld => ?_)
  · trivial
  clear hK K
  try simp only [Act.put, List.setIfInBounds_toArray, List.set_cons_zero, List.set_cons_succ]
  refine wpAnyH_done (by kernel_rfl) ?_ _
  skip
  first | go_end0 | refine bodyPost_ret (results_none rfl _ _ _) rfl ?_
  exact ⟨rfl, g5, cap5, hX5.out.2.1, hX5.out.1.s0 _, hX5.out.2.2.1, hX5.out.2.2.2⟩
end Go.Proofs.YtbpojobmenagkaaDoor
