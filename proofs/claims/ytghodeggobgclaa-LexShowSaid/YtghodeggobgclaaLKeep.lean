/- keep: a token laid down. -/
import Derived.Test.YtghodeggobgclaaLCol
namespace Go.Proofs.Ytghodeggobgclaa
open Go.RowKit Go.Shelf
theorem info_partsL {t : TypeId} {z : Value} {a b : Nat} (h : (Try.prog.info? t).map (fun i => (i.zero, i.size, i.bytes)) = some (some z, a, b)) : ∃ i, Try.prog.info? t = some i ∧ i.zero = some z ∧ i.size = a ∧ i.bytes = b := by
  cases hi : Try.prog.info? t with
  | none => rw [hi] at h; cases h
  | some i => rw [hi] at h; simp at h; exact ⟨i, rfl, h.1, h.2.1, h.2.2⟩
theorem infoT : (Try.prog.info? 35).map (fun i => (i.zero, i.size, i.bytes)) = some (some (.agg #[.int .i64 0, .string ⟨#[]⟩, .int .i64 0, .int .i64 0, .int .i64 0]), 5, 48) := by kernel_rfl
theorem cellsT_app (L M : List Tok) : cellsT (L ++ M) = cellsT L ++ cellsT M := by simp [cellsT]
/-- The token in a box. -/
def tbox (W : World) (B : Nat) (x0 x1 x2 x3 x4 : Value) : Prop := W.heap[B]? = some (.cells #[x0, x1, x2, x3, x4] 35 (0, 0))
theorem tbox_cells {W : World} {B : Nat} {x0 x1 x2 x3 x4 : Value} (h : tbox W B x0 x1 x2 x3 x4) : W.cell? ⟨B, 0, none⟩ = some x0 ∧ W.cell? ⟨B, 1, none⟩ = some x1 ∧ W.cell? ⟨B, 2, none⟩ = some x2 ∧ W.cell? ⟨B, 3, none⟩ = some x3 ∧ W.cell? ⟨B, 4, none⟩ = some x4 := by
  unfold tbox at h
  simp [World.cell?, h]
theorem tbox_set3 {W : World} {B : Nat} {x0 x1 x2 x3 x4 : Value} (h : tbox W B x0 x1 x2 x3 x4) (y z : Value) : tbox ((W.setCell ⟨B, 3, none⟩ y).setCell ⟨B, 4, none⟩ z) B x0 x1 x2 y z := by
  unfold tbox at h ⊢
  have h1 := heap_setCell_same W B 3 _ _ y h
  have h2 := heap_setCell_same _ B 4 _ _ z h1
  exact h2
theorem Sc.push {w0 W w3 : World} {K : Kd} {T : List UInt8} {a s l : Nat} {v v' : Value} {toks : List Tok} {t : Tok} (h : Sc w0 W K T a s l v toks) (hown : w3.ownsRow (w0.heap.size + 1) 35 5 v' (toks.length + 1) (cellsT toks ++ tcells t)) (hgrow : W.grownBy w3 v.ownBlock) (htk : toks.length + 1 ≤ a + l) :
    Sc w0 (w3.setCell ⟨w0.heap.size, 12, none⟩ v') K T a s l v' (toks ++ [t]) := by
  have hne : v.ownBlock ≠ some w0.heap.size := by
    intro e
    rcases h.row.2 with ⟨rfl, _⟩ | ⟨g, cap, cur, rfl, hb, _⟩
    · cases e
    · have : g = w0.heap.size := by simpa [Value.ownBlock] using e
      omega
  have hne' : ∀ g, v'.ownBlock = some g → w0.heap.size < g := by
    intro g e
    rcases hown.2 with ⟨rfl, _⟩ | ⟨g', cap, cur, rfl, hb, _⟩
    · cases e
    · have : g' = g := by simpa [Value.ownBlock] using e
      omega
  have hblk3 : w3.heap[w0.heap.size]? = W.heap[w0.heap.size]? := hgrow.block _ h.lt hne.symm
  have hb3 : Below w0.heap.size w0 w3 := h.bl.grown hgrow (Nat.le_of_lt h.lt) fun j ej => by
    rcases h.row.2 with ⟨rfl, _⟩ | ⟨g, cap, cur, rfl, hb, _⟩
    · cases ej
    · have : g = j := by simpa [Value.ownBlock] using ej
      omega
  refine { h with blk := ?_, row := ?_, bl := hb3.setCell (Nat.le_refl _) _, tk := by simpa using htk }
  · exact heap_setCell_same w3 _ 12 _ _ v' (hblk3.trans h.blk)
  · have hr : w3.ownsRow (w0.heap.size + 1) 35 5 v' (toks ++ [t]).length (cellsT (toks ++ [t])) := by
      rw [cellsT_app, List.length_append]
      simpa [cellsT] using hown
    refine owns_same hr fun g hg e => ?_
    exact heap_setCell_other w3 _ g v' (by have := hne' g e; show g ≠ w0.heap.size; omega)
theorem own_ne {W : World} {n : Nat} {e : TypeId} {sz : Nat} {v : Value} {m : Nat} {xs : List Value} (h : W.ownsRow (n + 1) e sz v m xs) : some n ≠ v.ownBlock := by
  intro ej
  rcases h.2 with ⟨rfl, _⟩ | ⟨g, cap, cur, rfl, hb, _⟩
  · cases ej
  · have : n = g := by simpa [Value.ownBlock] using ej
    omega
theorem setCell_far {W : World} {S i : Nat} {v : Value} {g : Nat} (h : g ≠ S) : (W.setCell ⟨S, i, none⟩ v).heap[g]? = W.heap[g]? := heap_setCell_other W _ g v h
theorem tbox_other {W : World} {B S i : Nat} {x0 x1 x2 x3 x4 y : Value} (h : tbox W B x0 x1 x2 x3 x4) (hne : B ≠ S) : tbox (W.setCell ⟨S, i, none⟩ y) B x0 x1 x2 x3 x4 := (heap_setCell_other W _ B y hne).trans h
theorem tbox_far {W w3 : World} {v : Value} {B : Nat} {x0 x1 x2 x3 x4 : Value} (hgrow : W.grownBy w3 v.ownBlock) (hb : tbox W B x0 x1 x2 x3 x4) (hB : v.ownBlock ≠ some B) : tbox w3 B x0 x1 x2 x3 x4 :=
  (hgrow.block _ (Array.getElem?_eq_some_iff.1 hb).1 hB.symm).trans hb
set_option maxRecDepth 100000 in
set_option maxHeartbeats 4000000 in
theorem keepF {w0 w : World} {K : Kd} {T : List UInt8} {a s l : Nat} {v : Value} {toks : List Tok} (H : Sc w0 w K T a s l v toks) (t : Tok) (htk : toks.length + 1 ≤ a + l) :
    Calls Try.prog 73 #[.pointer (some ⟨w0.heap.size, 0, none⟩), tv t] w fun e w' => e = .returned (.tuple #[]) ∧ (∃ v', Sc w0 w' K T a s l v' (toks ++ [⟨t.kind, t.text, t.num, l, (a - s + 1 : Nat)⟩])) ∧ ∀ g, g < w.heap.size → g ≠ w0.heap.size → some g ≠ v.ownBlock → w'.heap[g]? = w.heap[g]? := by
  obtain ⟨i0, hi, hz0, hz1, hz2⟩ := info_partsL infoT
  obtain ⟨-, x9, x10, x11, x12⟩ := H.cells
  obtain ⟨-, -, -, f12⟩ := H.frozen
  have hsm1 := H.tk
  have hsm2 := H.aT
  have hsm3 := H.tT
  have hsm4 := H.ln
  have hsm5 := H.sa
  have hlt : Hid (w0.heap.size < w.heap.size) := H.lt
  have hne : Hid (w0.heap.size ≠ w.heap.size) := Nat.ne_of_lt H.lt
  have hne2 : Hid (w.heap.size ≠ w0.heap.size) := Nat.ne_of_gt H.lt
  have KC : Hid (∀ W : World, W.cell? ⟨w0.heap.size, 9, none⟩ = some (.int .i64 (a : Int)) → W.cell? ⟨w0.heap.size, 10, none⟩ = some (.int .i64 (s : Int)) → Calls Try.prog 37 #[.pointer (some ⟨w0.heap.size, 0, none⟩)] W fun e w' => e = .returned (.int .i64 ((a - s + 1 : Nat) : Int)) ∧ ∃ n, w' = W.drewN n) := fun W h1 h2 => colF _ a s W h1 h2 (by omega) (by omega)
  have hd : a - s + 1 ≤ 65537 := by omega
  generalize hdd : a - s + 1 = d at *
  clear hdd
  have H' := hide' H
  clear H
  unfold tv
  generalize hsx : bs t.text = sx at *
  have W1B : Hid (tbox (w.alloc (.cells #[.int .i64 t.kind, .string sx, .int .i64 t.num, .int .i64 t.line, .int .i64 t.col] 35)) w.heap.size (.int .i64 t.kind) (.string sx) (.int .i64 t.num) (.int .i64 t.line) (.int .i64 t.col)) := heap_alloc_new w _
  have X9 : (w.alloc (.cells #[.int .i64 t.kind, .string sx, .int .i64 t.num, .int .i64 t.line, .int .i64 t.col] 35)).cell? ⟨w0.heap.size, 9, none⟩ = some (.int .i64 (a : Int)) := by rw [← x9]; exact ((Below.refl _ w).alloc (Nat.le_refl _) _).cell (p := ⟨w0.heap.size, 9, none⟩) hlt.out
  have X10 : (w.alloc (.cells #[.int .i64 t.kind, .string sx, .int .i64 t.num, .int .i64 t.line, .int .i64 t.col] 35)).cell? ⟨w0.heap.size, 10, none⟩ = some (.int .i64 (s : Int)) := by rw [← x10]; exact ((Below.refl _ w).alloc (Nat.le_refl _) _).cell (p := ⟨w0.heap.size, 10, none⟩) hlt.out
  have X11 : (w.alloc (.cells #[.int .i64 t.kind, .string sx, .int .i64 t.num, .int .i64 t.line, .int .i64 t.col] 35)).cell? ⟨w0.heap.size, 11, none⟩ = some (.int .i64 (l : Int)) := by rw [← x11]; exact ((Below.refl _ w).alloc (Nat.le_refl _) _).cell (p := ⟨w0.heap.size, 11, none⟩) hlt.out
  go_enter Try.func73, Try.ntmps73
  go_upto_region 1 with fail
  go_region_with (go_at_call 37; refine (KC.out _ (by simpa using X9) (by simpa using X10)).mono ?_; rintro e w2 ⟨rfl, n2, rfl⟩)
  all_goals
    have hvB : Hid (v.ownBlock ≠ some w.heap.size) := by
      intro e
      rcases H'.out.row.2 with ⟨rfl, _⟩ | ⟨g, cap, cur, rfl, hb, hg, _⟩
      · cases e
      · have e1 : g = w.heap.size := by simpa [Value.ownBlock] using e
        have := (Array.getElem?_eq_some_iff.1 hg).1
        omega
    have P1 : ∃ W2, W2 = ((((w.alloc (.cells #[.int .i64 t.kind, .string sx, .int .i64 t.num, .int .i64 t.line, .int .i64 t.col] 35)).drewN (1 + n2)).setCell ⟨w.heap.size, 3, none⟩ (.int .i64 (l : Int))).setCell ⟨w.heap.size, 4, none⟩ (.int .i64 (d : Int))) := ⟨_, rfl⟩
    obtain ⟨W2, hW2⟩ := P1
    have TB : Hid (tbox W2 w.heap.size (.int .i64 t.kind) (.string sx) (.int .i64 t.num) (.int .i64 (l : Int)) (.int .i64 (d : Int))) := by
      rw [hW2]
      exact tbox_set3 (W := (w.alloc (.cells #[.int .i64 t.kind, .string sx, .int .i64 t.num, .int .i64 t.line, .int .i64 t.col] 35)).drewN (1 + n2)) W1B.out _ _
    have H2 : Hid (Sc w0 W2 K T a s l v toks) := by
      rw [hW2]
      refine H'.out.below ?_
      refine (Below.setCell ?_ (p := ⟨w.heap.size, 3, none⟩) (Nat.le_refl _) _).setCell (p := ⟨w.heap.size, 4, none⟩) (Nat.le_refl _) _
      exact ((Below.refl _ w).alloc (Nat.le_refl _) _).trans ((drew_below _ _).mono (by simp))
    have F2 : Hid (w.heap.size ≤ W2.heap.size ∧ ∀ g, g < w.heap.size → W2.heap[g]? = w.heap[g]?) := by
      rw [hW2]
      have hb : Below w.heap.size w ((((w.alloc (.cells #[.int .i64 t.kind, .string sx, .int .i64 t.num, .int .i64 t.line, .int .i64 t.col] 35)).drewN (1 + n2)).setCell ⟨w.heap.size, 3, none⟩ (.int .i64 (l : Int))).setCell ⟨w.heap.size, 4, none⟩ (.int .i64 (d : Int))) := by
        refine (Below.setCell ?_ (p := ⟨w.heap.size, 3, none⟩) (Nat.le_refl _) _).setCell (p := ⟨w.heap.size, 4, none⟩) (Nat.le_refl _) _
        exact ((Below.refl _ w).alloc (Nat.le_refl _) _).trans ((drew_below _ _).mono (by simp))
      exact ⟨hb.size, fun g hg => hb.block g hg⟩
    rw [← hW2]
    clear hW2 W1B X9 X10 X11 H' KC x9 x10 x11 x12 f12
    obtain ⟨y0, y1, y2, y3, y4⟩ := tbox_cells TB.out
    obtain ⟨-, -, -, -, x12⟩ := H2.out.cells
    obtain ⟨-, -, -, f12⟩ := H2.out.frozen
    generalize hBB : w.heap.size = B at *
    have hBB' := hide' hBB
    clear hBB
    have b23 : Hid (Below W2.heap.size W2 ((W2.alloc (.cells #[.int .i64 t.kind, .string sx, .int .i64 t.num, .int .i64 (l : Int), .int .i64 (d : Int)] 35)).drew)) := ((Below.refl _ W2).alloc (Nat.le_refl _) _).drew
    have H3 : Hid (Sc w0 ((W2.alloc (.cells #[.int .i64 t.kind, .string sx, .int .i64 t.num, .int .i64 (l : Int), .int .i64 (d : Int)] 35)).drew) K T a s l v toks) := H2.out.below b23.out
    have TB3 : Hid (tbox ((W2.alloc (.cells #[.int .i64 t.kind, .string sx, .int .i64 t.num, .int .i64 (l : Int), .int .i64 (d : Int)] 35)).drew) B (.int .i64 t.kind) (.string sx) (.int .i64 t.num) (.int .i64 (l : Int)) (.int .i64 (d : Int))) := (b23.out.block _ (Array.getElem?_eq_some_iff.1 TB.out).1).trans TB.out
    have TN3 : Hid (tbox ((W2.alloc (.cells #[.int .i64 t.kind, .string sx, .int .i64 t.num, .int .i64 (l : Int), .int .i64 (d : Int)] 35)).drew) W2.heap.size (.int .i64 t.kind) (.string sx) (.int .i64 t.num) (.int .i64 (l : Int)) (.int .i64 (d : Int))) := heap_alloc_new W2 _
    have cnew : Hid (∀ j u, ([Value.int .i64 t.kind, .string sx, .int .i64 t.num, .int .i64 (l : Int), .int .i64 (d : Int)] : List Value)[j]? = some u → ((W2.alloc (.cells #[.int .i64 t.kind, .string sx, .int .i64 t.num, .int .i64 (l : Int), .int .i64 (d : Int)] 35)).drew).cell? ((⟨W2.heap.size, 0, none⟩ : Addr).add j) = some u) := by
      obtain ⟨n0, n1, n2, n3, n4⟩ := tbox_cells TN3.out
      intro j u hj
      match j, hj with
      | 0, hj => cases hj; exact n0
      | 1, hj => cases hj; exact n1
      | 2, hj => cases hj; exact n2
      | 3, hj => cases hj; exact n3
      | 4, hj => cases hj; exact n4
      | j + 5, hj => simp at hj
    have x12' : (W2.alloc (.cells #[.int .i64 t.kind, .string sx, .int .i64 t.num, .int .i64 (l : Int), .int .i64 (d : Int)] 35)).cell? ⟨w0.heap.size, 12, none⟩ = some v := H3.out.cells.2.2.2.2
    have F3 : Hid (∀ g, g < B → ((W2.alloc (.cells #[.int .i64 t.kind, .string sx, .int .i64 t.num, .int .i64 (l : Int), .int .i64 (d : Int)] 35)).drew).heap[g]? = w.heap[g]?) := fun g hg => (b23.out.block g (Nat.lt_of_lt_of_le hg F2.out.1)).trans (F2.out.2 g hg)
    have F4 : Hid (B ≤ ((W2.alloc (.cells #[.int .i64 t.kind, .string sx, .int .i64 t.num, .int .i64 (l : Int), .int .i64 (d : Int)] 35)).drew).heap.size) := Nat.le_trans F2.out.1 b23.out.size
    clear b23 TN3
    go_upto_region 2 with fail
    refine wp_region_held_drew (S := (fun V => V.cell? ⟨B, 0, none⟩ = some (.int .i64 t.kind) ∧ V.cell? ⟨B, 1, none⟩ = some (.string sx) ∧ V.cell? ⟨B, 2, none⟩ = some (.int .i64 t.num) ∧ V.cell? ⟨B, 3, none⟩ = some (.int .i64 (l : Int)) ∧ V.cell? ⟨B, 4, none⟩ = some (.int .i64 (d : Int)))) (by kernel_rfl) ?_ (fun hHeld => ?_)
    · exact tbox_cells TB.out
    refine wpAnyH_take (i := 0) (oi := { dst := some 12, op := Op.move (Operand.tmp 0), type := 84, pos := "scan.go:46", after := #[], guard := none }) (v := ?_) rfl (by kernel_rfl) (by kernel_rfl) (by kernel_rfl) (fun _ _ _ h => h) (Or.inl ⟨by rfl, ?_⟩) (by assumption) ?_
    rotate_left
    · intro w hSw; (try dsimp only at hSw); go_simp <;> with_reducible rfl
    simp only [Act.put, List.setIfInBounds_toArray, List.set_cons_zero, List.set_cons_succ]
    refine wpAnyH_take (i := 1) (oi := { dst := some 13, op := Op.move (Operand.tmp 0), type := 84, pos := "scan.go:46", after := #[], guard := none }) (v := ?_) rfl (by kernel_rfl) (by kernel_rfl) (by kernel_rfl) (fun _ _ _ h => h) (Or.inl ⟨by rfl, ?_⟩) (by assumption) ?_
    rotate_left
    · intro w hSw; (try dsimp only at hSw); go_simp <;> with_reducible rfl
    simp only [Act.put, List.setIfInBounds_toArray, List.set_cons_zero, List.set_cons_succ]
    refine wpAnyH_take (i := 2) (oi := { dst := some 14, op := Op.nilCheck (Operand.tmp 13), type := 0, pos := "scan.go:46", after := #[{ on := 1, ground := Ground.data }], guard := none }) (v := ?_) rfl (by kernel_rfl) (by kernel_rfl) (by kernel_rfl) (fun _ _ _ h => h) (Or.inl ⟨by rfl, ?_⟩) (by assumption) ?_
    rotate_left
    · intro w hSw; (try dsimp only at hSw); go_simp <;> with_reducible rfl
    simp only [Act.put, List.setIfInBounds_toArray, List.set_cons_zero, List.set_cons_succ]
    refine wpAnyH_take (i := 3) (oi := { dst := some 15, op := Op.fieldAddr 91 (Operand.tmp 14) 5, type := 0, pos := "scan.go:46", after := #[{ on := 2, ground := Ground.data }], guard := none }) (v := ?_) rfl (by kernel_rfl) (by kernel_rfl) (by kernel_rfl) (fun _ _ _ h => h) (Or.inl ⟨by rfl, ?_⟩) (by assumption) ?_
    rotate_left
    · intro w hSw; (try dsimp only at hSw); go_simp <;> with_reducible rfl
    simp only [Act.put, List.setIfInBounds_toArray, List.set_cons_zero, List.set_cons_succ]
    refine wpAnyH_take (i := 5) (oi := { dst := some 17, op := Op.load 35 (Operand.tmp 3), type := 35, pos := "scan.go:46", after := #[], guard := none }) (v := ?_) rfl (by kernel_rfl) (by kernel_rfl) (by kernel_rfl) (fun _ _ _ h => h) (Or.inl ⟨by rfl, ?_⟩) (by assumption) ?_
    rotate_left
    · intro w hSw; (try dsimp only at hSw); go_simp <;> with_reducible rfl
    simp only [Act.put, List.setIfInBounds_toArray, List.set_cons_zero, List.set_cons_succ]
    refine wpAnyH_ready (rs := [4, 6]) (by kernel_rfl) (by simp) ?_
    refine AllReadyH.cons (o := { dst := some 16, op := Op.load 22 (Operand.tmp 15), type := 22, pos := "scan.go:46", after := #[{ on := 3, ground := Ground.data }], guard := none }) rfl (fun K hK => ?_) ?_
    · skip
      go_simp
      refine hK.out _ _ ?_ (fun hHeld => ?_)
      · first | exact tbox_cells TB3.out | exact tbox_cells TB.out
      clear hK K
      try simp only [Act.put, List.setIfInBounds_toArray, List.set_cons_zero, List.set_cons_succ]
      refine wpAnyH_ready (rs := [6]) (by kernel_rfl) (by simp) ?_
      refine AllReadyH.cons (o := { dst := some 18, op := Op.buildSlice 22 1 #[(0, Operand.tmp 17)], type := 22, pos := "scan.go:46", after := #[{ on := 5, ground := Ground.data }], guard := none }) rfl (fun K hK => ?_) AllReadyH.nil
      go_simp
      refine hK.out _ _ ?_ (fun hHeld => ?_)
      · first | exact tbox_cells TB3.out | exact tbox_cells TB.out
      clear hK K
      try simp only [Act.put, List.setIfInBounds_toArray, List.set_cons_zero, List.set_cons_succ]
      refine wpAnyH_ready (rs := [7]) (by kernel_rfl) (by simp) ?_
      refine AllReadyH.cons (o := { dst := some 19, op := Op.call { callee := Callee.builtin Builtin.append, args := #[Operand.tmp 16, Operand.tmp 18], argTypes := #[22, 22] }, type := 22, pos := "scan.go:46", after := #[{ on := 4, ground := Ground.data }, { on := 6, ground := Ground.data }], guard := none }) rfl (fun K hK => ?_) AllReadyH.nil
      rw [if_pos (by rfl)]
      refine wp_append_own _ (.tmp 16) (.tmp 18) 22 rfl (w0.heap.size + 1) 35 i0 (.agg #[.int .i64 0, .string ⟨#[]⟩, .int .i64 0, .int .i64 0, .int .i64 0]) 5 48 Try.underlying22 hi hz0 hz1 hz2 rfl (by decide) v toks.length (cellsT toks) rfl H3.out.row ⟨W2.heap.size, 0, none⟩ 1 1 [.int .i64 t.kind, .string sx, .int .i64 t.num, .int .i64 (l : Int), .int .i64 (d : Int)] rfl rfl cnew.out (by simp [Value.oneCell']) (by unfold maxLen; omega) (by omega) H3.out.lt ?_; intro v3 w3 hown3 hgrow3 _; obtain ⟨o3, cap3, rfl⟩ := own_shapeT hown3; have HP := hide' (H3.out.push (t := ⟨t.kind, t.text, t.num, l, d⟩) (by unfold tcells; rw [hsx]; exact hown3) hgrow3 (by omega)); have TB4 := hide' (tbox_far hgrow3 TB3.out hvB.out); have TB5 := hide' (tbox_other (S := w0.heap.size) (i := 12) (y := .slice o3 (toks.length + 1) cap3) TB4.out hne2.out); have z12 := (hgrow3.cell_far ⟨w0.heap.size, 12, none⟩ H3.out.lt (own_ne H3.out.row)).trans H3.out.cells.2.2.2.2; have zf := (hgrow3.frozen_far ⟨w0.heap.size, 12, none⟩ H3.out.lt (own_ne H3.out.row)).trans H3.out.frozen.2.2.2; have F5 : Hid (∀ g, g < B → g ≠ w0.heap.size → some g ≠ v.ownBlock → (w3.setCell ⟨w0.heap.size, 12, none⟩ (.slice o3 (toks.length + 1) cap3)).heap[g]? = w.heap[g]?) := fun g hg h1 h2 => ((setCell_far h1).trans (hgrow3.block g (Nat.lt_of_lt_of_le hg F4.out) h2)).trans (F3.out g hg); clear hown3 hgrow3
      refine hK.out _ _ ?_ (fun hHeld => ?_)
      · exact tbox_cells TB4.out
      clear hK K
      try simp only [Act.put, List.setIfInBounds_toArray, List.set_cons_zero, List.set_cons_succ]
      refine wpAnyH_take (i := 8) (oi := { dst := some 20, op := Op.nilCheck (Operand.tmp 12), type := 0, pos := "scan.go:46", after := #[{ on := 0, ground := Ground.data }, { on := 0, ground := Ground.phase }, { on := 1, ground := Ground.phase }, { on := 2, ground := Ground.phase }, { on := 3, ground := Ground.phase }, { on := 4, ground := Ground.phase }, { on := 5, ground := Ground.phase }, { on := 6, ground := Ground.phase }, { on := 7, ground := Ground.phase }], guard := none }) (v := ?_) rfl (by kernel_rfl) (by kernel_rfl) (by kernel_rfl) (fun _ _ _ h => h) (Or.inl ⟨by rfl, ?_⟩) (by assumption) ?_
      rotate_left
      · intro w hSw; (try dsimp only at hSw); go_simp <;> with_reducible rfl
      simp only [Act.put, List.setIfInBounds_toArray, List.set_cons_zero, List.set_cons_succ]
      refine wpAnyH_take (i := 9) (oi := { dst := some 21, op := Op.fieldAddr 91 (Operand.tmp 20) 5, type := 0, pos := "scan.go:46", after := #[{ on := 8, ground := Ground.data }, { on := 0, ground := Ground.phase }, { on := 1, ground := Ground.phase }, { on := 2, ground := Ground.phase }, { on := 3, ground := Ground.phase }, { on := 4, ground := Ground.phase }, { on := 5, ground := Ground.phase }, { on := 6, ground := Ground.phase }, { on := 7, ground := Ground.phase }], guard := none }) (v := ?_) rfl (by kernel_rfl) (by kernel_rfl) (by kernel_rfl) (fun _ _ _ h => h) (Or.inl ⟨by rfl, ?_⟩) (by assumption) ?_
      rotate_left
      · intro w hSw; (try dsimp only at hSw); go_simp <;> with_reducible rfl
      simp only [Act.put, List.setIfInBounds_toArray, List.set_cons_zero, List.set_cons_succ]
      refine wpAnyH_ready (rs := [10]) (by kernel_rfl) (by simp) ?_
      refine AllReadyH.cons (o := { dst := none, op := Op.store 22 (Operand.tmp 21) (Operand.tmp 19), type := 0, pos := "scan.go:46", after := #[{ on := 9, ground := Ground.data }, { on := 7, ground := Ground.data }, { on := 7, ground := Ground.chain }, { on := 0, ground := Ground.phase }, { on := 1, ground := Ground.phase }, { on := 2, ground := Ground.phase }, { on := 3, ground := Ground.phase }, { on := 4, ground := Ground.phase }, { on := 5, ground := Ground.phase }, { on := 6, ground := Ground.phase }, { on := 7, ground := Ground.phase }], guard := none }) rfl (fun K hK => ?_) AllReadyH.nil
      go_simp
      refine hK.out _ _ ?_ (fun hHeld => ?_)
      · exact tbox_cells TB5.out
      clear hK K
      try simp only [Act.put, List.setIfInBounds_toArray, List.set_cons_zero, List.set_cons_succ]
      refine wpAnyH_done (by kernel_rfl) ?_ _
      skip
      go_wp2
      first | go_end0 | refine bodyPost_ret (results_none rfl _ _ _) rfl ?_
      exact ⟨rfl, ⟨_, HP.out⟩, fun g hg => F5.out g (Nat.lt_of_lt_of_eq hg hBB'.out)⟩
    refine AllReadyH.cons (o := { dst := some 18, op := Op.buildSlice 22 1 #[(0, Operand.tmp 17)], type := 22, pos := "scan.go:46", after := #[{ on := 5, ground := Ground.data }], guard := none }) rfl (fun K hK => ?_) AllReadyH.nil
    go_simp
    refine hK.out _ _ ?_ (fun hHeld => ?_)
    · first | exact tbox_cells TB3.out | exact tbox_cells TB.out
    clear hK K
    try simp only [Act.put, List.setIfInBounds_toArray, List.set_cons_zero, List.set_cons_succ]
    refine wpAnyH_ready (rs := [4]) (by kernel_rfl) (by simp) ?_
    refine AllReadyH.cons (o := { dst := some 16, op := Op.load 22 (Operand.tmp 15), type := 22, pos := "scan.go:46", after := #[{ on := 3, ground := Ground.data }], guard := none }) rfl (fun K hK => ?_) AllReadyH.nil
    go_simp
    refine hK.out _ _ ?_ (fun hHeld => ?_)
    · first | exact tbox_cells TB3.out | exact tbox_cells TB.out
    clear hK K
    try simp only [Act.put, List.setIfInBounds_toArray, List.set_cons_zero, List.set_cons_succ]
    refine wpAnyH_ready (rs := [7]) (by kernel_rfl) (by simp) ?_
    refine AllReadyH.cons (o := { dst := some 19, op := Op.call { callee := Callee.builtin Builtin.append, args := #[Operand.tmp 16, Operand.tmp 18], argTypes := #[22, 22] }, type := 22, pos := "scan.go:46", after := #[{ on := 4, ground := Ground.data }, { on := 6, ground := Ground.data }], guard := none }) rfl (fun K hK => ?_) AllReadyH.nil
    rw [if_pos (by rfl)]
    refine wp_append_own _ (.tmp 16) (.tmp 18) 22 rfl (w0.heap.size + 1) 35 i0 (.agg #[.int .i64 0, .string ⟨#[]⟩, .int .i64 0, .int .i64 0, .int .i64 0]) 5 48 Try.underlying22 hi hz0 hz1 hz2 rfl (by decide) v toks.length (cellsT toks) rfl H3.out.row ⟨W2.heap.size, 0, none⟩ 1 1 [.int .i64 t.kind, .string sx, .int .i64 t.num, .int .i64 (l : Int), .int .i64 (d : Int)] rfl rfl cnew.out (by simp [Value.oneCell']) (by unfold maxLen; omega) (by omega) H3.out.lt ?_; intro v3 w3 hown3 hgrow3 _; obtain ⟨o3, cap3, rfl⟩ := own_shapeT hown3; have HP := hide' (H3.out.push (t := ⟨t.kind, t.text, t.num, l, d⟩) (by unfold tcells; rw [hsx]; exact hown3) hgrow3 (by omega)); have TB4 := hide' (tbox_far hgrow3 TB3.out hvB.out); have TB5 := hide' (tbox_other (S := w0.heap.size) (i := 12) (y := .slice o3 (toks.length + 1) cap3) TB4.out hne2.out); have z12 := (hgrow3.cell_far ⟨w0.heap.size, 12, none⟩ H3.out.lt (own_ne H3.out.row)).trans H3.out.cells.2.2.2.2; have zf := (hgrow3.frozen_far ⟨w0.heap.size, 12, none⟩ H3.out.lt (own_ne H3.out.row)).trans H3.out.frozen.2.2.2; have F5 : Hid (∀ g, g < B → g ≠ w0.heap.size → some g ≠ v.ownBlock → (w3.setCell ⟨w0.heap.size, 12, none⟩ (.slice o3 (toks.length + 1) cap3)).heap[g]? = w.heap[g]?) := fun g hg h1 h2 => ((setCell_far h1).trans (hgrow3.block g (Nat.lt_of_lt_of_le hg F4.out) h2)).trans (F3.out g hg); clear hown3 hgrow3
    refine hK.out _ _ ?_ (fun hHeld => ?_)
    · exact tbox_cells TB4.out
    clear hK K
    try simp only [Act.put, List.setIfInBounds_toArray, List.set_cons_zero, List.set_cons_succ]
    refine wpAnyH_take (i := 8) (oi := { dst := some 20, op := Op.nilCheck (Operand.tmp 12), type := 0, pos := "scan.go:46", after := #[{ on := 0, ground := Ground.data }, { on := 0, ground := Ground.phase }, { on := 1, ground := Ground.phase }, { on := 2, ground := Ground.phase }, { on := 3, ground := Ground.phase }, { on := 4, ground := Ground.phase }, { on := 5, ground := Ground.phase }, { on := 6, ground := Ground.phase }, { on := 7, ground := Ground.phase }], guard := none }) (v := ?_) rfl (by kernel_rfl) (by kernel_rfl) (by kernel_rfl) (fun _ _ _ h => h) (Or.inl ⟨by rfl, ?_⟩) (by assumption) ?_
    rotate_left
    · intro w hSw; (try dsimp only at hSw); go_simp <;> with_reducible rfl
    simp only [Act.put, List.setIfInBounds_toArray, List.set_cons_zero, List.set_cons_succ]
    refine wpAnyH_take (i := 9) (oi := { dst := some 21, op := Op.fieldAddr 91 (Operand.tmp 20) 5, type := 0, pos := "scan.go:46", after := #[{ on := 8, ground := Ground.data }, { on := 0, ground := Ground.phase }, { on := 1, ground := Ground.phase }, { on := 2, ground := Ground.phase }, { on := 3, ground := Ground.phase }, { on := 4, ground := Ground.phase }, { on := 5, ground := Ground.phase }, { on := 6, ground := Ground.phase }, { on := 7, ground := Ground.phase }], guard := none }) (v := ?_) rfl (by kernel_rfl) (by kernel_rfl) (by kernel_rfl) (fun _ _ _ h => h) (Or.inl ⟨by rfl, ?_⟩) (by assumption) ?_
    rotate_left
    · intro w hSw; (try dsimp only at hSw); go_simp <;> with_reducible rfl
    simp only [Act.put, List.setIfInBounds_toArray, List.set_cons_zero, List.set_cons_succ]
    refine wpAnyH_ready (rs := [10]) (by kernel_rfl) (by simp) ?_
    refine AllReadyH.cons (o := { dst := none, op := Op.store 22 (Operand.tmp 21) (Operand.tmp 19), type := 0, pos := "scan.go:46", after := #[{ on := 9, ground := Ground.data }, { on := 7, ground := Ground.data }, { on := 7, ground := Ground.chain }, { on := 0, ground := Ground.phase }, { on := 1, ground := Ground.phase }, { on := 2, ground := Ground.phase }, { on := 3, ground := Ground.phase }, { on := 4, ground := Ground.phase }, { on := 5, ground := Ground.phase }, { on := 6, ground := Ground.phase }, { on := 7, ground := Ground.phase }], guard := none }) rfl (fun K hK => ?_) AllReadyH.nil
    go_simp
    refine hK.out _ _ ?_ (fun hHeld => ?_)
    · exact tbox_cells TB5.out
    clear hK K
    try simp only [Act.put, List.setIfInBounds_toArray, List.set_cons_zero, List.set_cons_succ]
    refine wpAnyH_done (by kernel_rfl) ?_ _
    skip
    go_wp2
    first | go_end0 | refine bodyPost_ret (results_none rfl _ _ _) rfl ?_
    exact ⟨rfl, ⟨_, HP.out⟩, fun g hg => F5.out g (Nat.lt_of_lt_of_eq hg hBB'.out)⟩
end Go.Proofs.Ytghodeggobgclaa
