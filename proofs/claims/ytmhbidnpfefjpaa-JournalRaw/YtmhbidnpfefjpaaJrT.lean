/- Two disks and two journals beside the side's block; opens. -/
import Derived.Test.YtmhbidnpfefjpaaJrS
namespace Go.Proofs.Ytmhbidnpfefjpaa
open Go.RowKit
def pjV : Option (Nat × Nat × Jn) → Value
  | none => .pointer none
  | some x => .pointer (some ⟨x.1, 0, none⟩)
def pqV : Option (Nat × Nat × Jn) → Value
  | none => .pointer none
  | some x => .pointer (some ⟨x.2.1, 0, none⟩)
/-- The side's block. -/
def SbA (W : World) (s g r : Nat) (pv qv : Value) : Prop := W.heap[s]? = some (.cells #[.pointer (some ⟨g, 0, none⟩), .pointer (some ⟨r, 0, none⟩), pv, qv] 32 (0, 0))
theorem SbA.cells {W : World} {s g r : Nat} {pv qv : Value} (h : SbA W s g r pv qv) : W.cell? ⟨s, 0, none⟩ = some (.pointer (some ⟨g, 0, none⟩)) ∧ W.cell? ⟨s, 1, none⟩ = some (.pointer (some ⟨r, 0, none⟩)) ∧ W.cell? ⟨s, 2, none⟩ = some pv ∧ W.cell? ⟨s, 3, none⟩ = some qv := by
  unfold SbA at h
  refine ⟨?_, ?_, ?_, ?_⟩ <;> simp [World.cell?, h]
theorem SbA.free {W : World} {s g r : Nat} {pv qv : Value} (h : SbA W s g r pv qv) (i : Nat) : W.frozen? ⟨s, i, none⟩ = false := by
  unfold SbA at h
  simp [World.frozen?, h]
theorem SbA.set2 {W : World} {s g r : Nat} {pv qv : Value} (h : SbA W s g r pv qv) (u : Value) : SbA (W.setCell ⟨s, 2, none⟩ u) s g r u qv := by
  have q := set_heap h 2 u
  simpa [SbA] using q
theorem SbA.set3 {W : World} {s g r : Nat} {pv qv : Value} (h : SbA W s g r pv qv) (u : Value) : SbA (W.setCell ⟨s, 3, none⟩ u) s g r pv u := by
  have q := set_heap h 3 u
  simpa [SbA] using q
theorem ne_ty {W : World} {a b : Nat} {c1 c2 : Array Value} {T1 T2 : TypeId} (h1 : W.heap[a]? = some (.cells c1 T1 (0, 0))) (h2 : W.heap[b]? = some (.cells c2 T2 (0, 0))) (h : T1 ≠ T2) : a ≠ b := by
  rintro rfl
  rw [h1] at h2
  injection h2 with h2
  injection h2 with _ h2
  exact h h2
/-- The disks and the journals; all lie from B on. -/
structure Sk (B g gb r rb cap n : Nat) (D : Dk) (O : Option (Nat × Nat × Jn)) (W : World) : Prop where
  dk : DkA W g gb D
  rk : RkA W r rb cap D
  ok : DkO D n
  by256 : B256 D.bytes
  ne : gb ≠ rb
  lo : B ≤ g ∧ B ≤ gb ∧ B ≤ r ∧ B ≤ rb
  jn : ∀ x, O = some x → JnA W x.1 g x.2.2 ∧ RjA W x.2.1 r x.2.2 ∧ x.2.2.e < n ∧ x.2.2.c ≤ x.2.2.e ∧ x.2.2.b < 4294967296 ∧ B ≤ x.1 ∧ B ≤ x.2.1
theorem Sk.up {B g gb r rb cap n : Nat} {D : Dk} {O : Option (Nat × Nat × Jn)} {W W' : World} (h : Sk B g gb r rb cap n D O W) (hb : Below W.heap.size W W') : Sk B g gb r rb cap n D O W' :=
  ⟨h.dk.below hb (Nat.le_refl _), h.rk.up hb, h.ok, h.by256, h.ne, h.lo, fun x hx => ⟨(h.jn x hx).1.below hb (blk_lt (h.jn x hx).1), (h.jn x hx).2.1.below hb (blk_lt (h.jn x hx).2.1), (h.jn x hx).2.2⟩⟩
theorem dk_nes {W : World} {s g gb r rb cap : Nat} {D : Dk} {pv qv : Value} (h1 : DkA W g gb D) (h2 : RkA W r rb cap D) (h3 : SbA W s g r pv qv) : g ≠ r ∧ g ≠ rb ∧ gb ≠ r ∧ s ≠ g ∧ s ≠ gb ∧ s ≠ r ∧ s ≠ rb := by
  obtain ⟨cs, h4⟩ := h2.blk
  exact ⟨ne_ty h1.1 h2.bx (by decide), ne_ty h1.1 h4 (by decide), ne_ty h1.2 h2.bx (by decide), ne_ty h3 h1.1 (by decide), ne_ty h3 h1.2 (by decide), ne_ty h3 h2.bx (by decide), ne_ty h3 h4 (by decide)⟩
/-- What stands behind both openings. -/
theorem after3 {W w1 w2 w3 : World} {B s g gb r rb cap n : Nat} {D D2 : Dk} {O : Option (Nat × Nat × Jn)} (hQ : Sk B g gb r rb cap n D O W) (hne : g ≠ r ∧ g ≠ rb ∧ gb ≠ r ∧ s ≠ g ∧ s ≠ gb ∧ s ≠ r ∧ s ≠ rb) (hlt : g < W.heap.size ∧ gb < W.heap.size ∧ r < W.heap.size ∧ rb < W.heap.size ∧ s < W.heap.size) (hB : B ≤ s ∧ B ≤ W.heap.size)
    (hd1 : DkA w1 g gb D2) (hk1 : Kp g gb W w1) (hd2 : RkA w2 r rb cap D2) (hk2 : Kp r rb w1 w2) (hk3 : Kp s s w2 w3) : DkA w3 g gb D2 ∧ RkA w3 r rb cap D2 ∧ Below B W w3 ∧ (∀ k, W.heap.size ≤ k → k < w1.heap.size → w3.heap[k]? = w1.heap[k]?) ∧ (∀ k, W.heap.size ≤ k → k < w2.heap.size → w3.heap[k]? = w2.heap[k]?) := by
  have h1 := hk1.size
  have h2 := hk2.size
  have hn := hQ.ne
  have hl := hQ.lo
  refine ⟨(hd1.kp hk2 hne.1 hne.2.1 hne.2.2.1 hn).kp hk3 hne.2.2.2.1.symm hne.2.2.2.1.symm hne.2.2.2.2.1.symm hne.2.2.2.2.1.symm, hd2.kp hk3 hne.2.2.2.2.2.1.symm hne.2.2.2.2.2.1.symm hne.2.2.2.2.2.2.symm hne.2.2.2.2.2.2.symm, ?_, ?_, ?_⟩
  · exact (hk1.below hl.1 hl.2.1 hB.2).trans ((hk2.below hl.2.2.1 hl.2.2.2 (by omega)).trans (hk3.below hB.1 hB.1 (by omega)))
  · intro k a b
    exact (hk3.block k (by omega) (by omega) (by omega)).trans (hk2.block k b (by omega) (by omega))
  · intro k a b
    exact hk3.block k b (by omega) (by omega)
theorem bt1_lt (b : Nat) : bt1 b < 4294967296 := by unfold bt1; omega
theorem rowR_nil (W : World) : RowR W (.slice none 0 0) [] := ⟨none, 0, rfl, fun i r hr => by cases hr⟩
set_option maxRecDepth 100000 in
set_option maxHeartbeats 8000000 in
theorem opensF {W : World} {B s g gb r rb cap n : Nat} {D : Dk} {O : Option (Nat × Nat × Jn)} {pv0 qv0 : Value} (h : Sk B g gb r rb cap n D O W) (hs : SbA W s g r pv0 qv0) (hB : B ≤ s ∧ B ≤ W.heap.size) (hw : D.writes < 1000000000000) : Calls Try.prog 10 #[.pointer (some ⟨s, 0, none⟩)] W fun e w' => e = .returned (.bool true) ∧ ∃ O', Hid (Sk B g gb r rb cap n (opD D n) O' w') ∧ Hid (SbA w' s g r (pjV O') (pqV O')) ∧ Hid (Below B W w') := by
  have hQ := hide' h
  have hS := hide' hs
  have hne := hide' (dk_nes h.dk h.rk hs)
  have KA := hide' (openA h.dk h.ok h.by256 hw)
  unfold OaP at KA
  have KB := hide' (fun V (hV : RkA V r rb cap D) => openB hV h.ok h.by256 hw)
  unfold ObP at KB
  have hok := hide' (opD_ok h.ok h.by256 hw)
  have hmost := h.ok.most
  have hlt : Hid (g < W.heap.size ∧ gb < W.heap.size ∧ r < W.heap.size ∧ rb < W.heap.size ∧ s < W.heap.size) := by
    obtain ⟨cs, h4⟩ := h.rk.blk
    exact ⟨blk_lt h.dk.1, blk_lt h.dk.2, blk_lt h.rk.bx, blk_lt h4, blk_lt hs⟩
  obtain ⟨c0, c1, c2, c3⟩ := hs.cells
  have hB' := hide' hB
  clear h hs hB hw
  generalize hDD : opD D n = D2 at *
  generalize hEE : opE D n = ev at *
  clear hDD hEE
  cases hO : opS D n with
  | none =>
    rw [hO] at KA KB
    unfold OaF at KA
    unfold ObF at KB
    clear hO
    go_enter Try.func10, Try.ntmps10
    go_upto_region 2 with (go_at_call 15; refine KA.out.mono ?_; rintro e' w1 ⟨pv, lv, rfl, hd1, hk1, hf1⟩; obtain ⟨rfl, rfl⟩ := hf1.out)
    have hr1 := hide' (hQ.out.rk.kp hk1.out hne.out.1.symm hne.out.2.2.1.symm hne.out.2.1.symm hQ.out.ne.symm)
    have hs1 : Hid (SbA w1 s g r pv0 qv0) := (hk1.out.block s hlt.out.2.2.2.2 hne.out.2.2.2.1 hne.out.2.2.2.2.1).trans hS.out
    obtain ⟨d0, d1, d2, d3⟩ := hs1.out.cells
    have hsf := hs1.out.free
    go_upto_region 3 with (go_at_call 30; refine (KB.out w1 hr1.out).mono ?_; rintro e' w2 ⟨qv, mv, rfl, hd2, hk2, hf2⟩; obtain ⟨rfl, rfl⟩ := hf2.out)
    have hs2 : Hid (SbA w2 s g r pv0 qv0) := (hk2.out.block s (Nat.lt_of_lt_of_le hlt.out.2.2.2.2 hk1.out.size) hne.out.2.2.2.2.2.1 hne.out.2.2.2.2.2.2).trans hs1.out
    obtain ⟨b0, b1, b2, b3⟩ := hs2.out.cells
    have hbf := hs2.out.free
    have hs3 := hide' ((hs2.out.set2 (.pointer none)).set3 (.pointer none))
    have hk3 : Hid (Kp s s w2 ((w2.setCell ⟨s, 2, none⟩ (.pointer none)).setCell ⟨s, 3, none⟩ (.pointer none))) := ((Kp.refl _ _ _).set _ _).set _ _
    go_upto_region 5 with fail
    generalize (w2.setCell ⟨s, 2, none⟩ (.pointer none)).setCell ⟨s, 3, none⟩ (.pointer none) = w3 at *
    have hA := hide' (after3 hQ.out hne.out hlt.out hB'.out hd1.out hk1.out hd2.out hk2.out hk3.out)
    have hQ3 : Hid (Sk B g gb r rb cap n D2 none w3) := ⟨hA.out.1, hA.out.2.1, hok.out.1, hok.out.2.1, hQ.out.ne, hQ.out.lo, fun x hx => by cases hx⟩
    have KR := hide' (rowsF (rowR_nil w3.drew) (rowR_nil w3.drew) (by simp))
    have hbe := hide' hA.out.2.2.1
    clear hA hd1 hd2 hk1 hk2 hk3 hs1 hs2 hr1 KA KB
    go_wp2_with fail
    refine wp_region_noPanic (wp_region_held_drew (S := (fun _ => True)) (by kernel_rfl) ?_ (fun hHeld => ?_))
    · trivial
    refine wpAnyH_take (i := 0) (oi := { dst := some 35, op := Op.move (Operand.tmp 5), type := 39, pos := "law.go:77", after := #[], guard := none }) (v := ?_) rfl (by kernel_rfl) (by kernel_rfl) (by kernel_rfl) (fun _ _ _ h => h) (Or.inl ⟨by rfl, ?_⟩) (by assumption) ?_
    rotate_left
    · intro w hSw; (try dsimp only at hSw); go_simp <;> with_reducible rfl
    simp only [Act.put, List.setIfInBounds_toArray, List.set_cons_zero, List.set_cons_succ]
    refine wpAnyH_take (i := 1) (oi := { dst := some 36, op := Op.move (Operand.tmp 8), type := 3, pos := "law.go:77", after := #[], guard := none }) (v := ?_) rfl (by kernel_rfl) (by kernel_rfl) (by kernel_rfl) (fun _ _ _ h => h) (Or.inl ⟨by rfl, ?_⟩) (by assumption) ?_
    rotate_left
    · intro w hSw; (try dsimp only at hSw); go_simp <;> with_reducible rfl
    simp only [Act.put, List.setIfInBounds_toArray, List.set_cons_zero, List.set_cons_succ]
    refine wpAnyH_take (i := 2) (oi := { dst := some 37, op := Op.binOp BinOp.eql 3 (Operand.tmp 35) (Operand.tmp 36) 3, type := 4, pos := "law.go:77", after := #[{ on := 0, ground := Ground.data }, { on := 1, ground := Ground.data }], guard := none }) (v := ?_) rfl (by kernel_rfl) (by kernel_rfl) (by kernel_rfl) (fun _ _ _ h => h) (Or.inl ⟨by rfl, ?_⟩) (by assumption) ?_
    rotate_left
    · intro w hSw; (try dsimp only at hSw); go_simp <;> with_reducible rfl
    simp only [Act.put, List.setIfInBounds_toArray, List.set_cons_zero, List.set_cons_succ]
    refine wpAnyH_take (i := 3) (oi := { dst := some 38, op := Op.move (Operand.tmp 37), type := 4, pos := "law.go:77", after := #[{ on := 2, ground := Ground.data }], guard := none }) (v := ?_) rfl (by kernel_rfl) (by kernel_rfl) (by kernel_rfl) (fun _ _ _ h => h) (Or.inl ⟨by rfl, ?_⟩) (by assumption) ?_
    rotate_left
    · intro w hSw; (try dsimp only at hSw); go_simp <;> with_reducible rfl
    simp only [Act.put, List.setIfInBounds_toArray, List.set_cons_zero, List.set_cons_succ]
    refine wpAnyH_take (i := 4) (oi := { dst := some 39, op := Op.move (Operand.tmp 3), type := 29, pos := "law.go:77", after := #[{ on := 3, ground := Ground.guard }], guard := some (3, true) }) (v := ?_) rfl (by kernel_rfl) (by kernel_rfl) (by kernel_rfl) (fun _ _ _ h => h) (Or.inl ⟨by rfl, ?_⟩) (by assumption) ?_
    rotate_left
    · intro w hSw; (try dsimp only at hSw); go_simp <;> with_reducible rfl
    simp only [Act.put, List.setIfInBounds_toArray, List.set_cons_zero, List.set_cons_succ]
    refine wpAnyH_take (i := 5) (oi := { dst := some 40, op := Op.binOp BinOp.eql 29 (Operand.tmp 39) (Operand.const (Value.pointer none)) 29, type := 4, pos := "law.go:77", after := #[{ on := 4, ground := Ground.data }, { on := 3, ground := Ground.guard }], guard := some (3, true) }) (v := ?_) rfl (by kernel_rfl) (by kernel_rfl) (by kernel_rfl) (fun _ _ _ h => h) (Or.inl ⟨by rfl, ?_⟩) (by assumption) ?_
    rotate_left
    · intro w hSw; (try dsimp only at hSw); go_simp <;> with_reducible rfl
    simp only [Act.put, List.setIfInBounds_toArray, List.set_cons_zero, List.set_cons_succ]
    refine wpAnyH_take (i := 6) (oi := { dst := some 41, op := Op.move (Operand.tmp 6), type := 30, pos := "law.go:77", after := #[{ on := 3, ground := Ground.guard }], guard := some (3, true) }) (v := ?_) rfl (by kernel_rfl) (by kernel_rfl) (by kernel_rfl) (fun _ _ _ h => h) (Or.inl ⟨by rfl, ?_⟩) (by assumption) ?_
    rotate_left
    · intro w hSw; (try dsimp only at hSw); go_simp <;> with_reducible rfl
    simp only [Act.put, List.setIfInBounds_toArray, List.set_cons_zero, List.set_cons_succ]
    refine wpAnyH_take (i := 7) (oi := { dst := some 42, op := Op.binOp BinOp.eql 30 (Operand.tmp 41) (Operand.const (Value.pointer none)) 30, type := 4, pos := "law.go:77", after := #[{ on := 6, ground := Ground.data }, { on := 3, ground := Ground.guard }], guard := some (3, true) }) (v := ?_) rfl (by kernel_rfl) (by kernel_rfl) (by kernel_rfl) (fun _ _ _ h => h) (Or.inl ⟨by rfl, ?_⟩) (by assumption) ?_
    rotate_left
    · intro w hSw; (try dsimp only at hSw); go_simp <;> with_reducible rfl
    simp only [Act.put, List.setIfInBounds_toArray, List.set_cons_zero, List.set_cons_succ]
    refine wpAnyH_take (i := 8) (oi := { dst := some 43, op := Op.binOp BinOp.eql 4 (Operand.tmp 40) (Operand.tmp 42) 4, type := 4, pos := "law.go:77", after := #[{ on := 5, ground := Ground.data }, { on := 7, ground := Ground.data }, { on := 3, ground := Ground.guard }], guard := some (3, true) }) (v := ?_) rfl (by kernel_rfl) (by kernel_rfl) (by kernel_rfl) (fun _ _ _ h => h) (Or.inl ⟨by rfl, ?_⟩) (by assumption) ?_
    rotate_left
    · intro w hSw; (try dsimp only at hSw); go_simp <;> with_reducible rfl
    simp only [Act.put, List.setIfInBounds_toArray, List.set_cons_zero, List.set_cons_succ]
    refine wpAnyH_take (i := 9) (oi := { dst := some 44, op := Op.pick (Operand.tmp 38) (Operand.tmp 43) (Operand.const (Value.bool false)), type := 4, pos := "law.go:77", after := #[{ on := 3, ground := Ground.data }, { on := 8, ground := Ground.data }], guard := none }) (v := ?_) rfl (by kernel_rfl) (by kernel_rfl) (by kernel_rfl) (fun _ _ _ h => h) (Or.inl ⟨by rfl, ?_⟩) (by assumption) ?_
    rotate_left
    · intro w hSw; (try dsimp only at hSw); go_simp <;> with_reducible rfl
    simp only [Act.put, List.setIfInBounds_toArray, List.set_cons_zero, List.set_cons_succ]
    refine wpAnyH_take (i := 10) (oi := { dst := some 45, op := Op.move (Operand.tmp 44), type := 4, pos := "law.go:77", after := #[{ on := 9, ground := Ground.data }, { on := 3, ground := Ground.chain }], guard := none }) (v := ?_) rfl (by kernel_rfl) (by kernel_rfl) (by kernel_rfl) (fun _ _ _ h => h) (Or.inl ⟨by rfl, ?_⟩) (by assumption) ?_
    rotate_left
    · intro w hSw; (try dsimp only at hSw); go_simp <;> with_reducible rfl
    simp only [Act.put, List.setIfInBounds_toArray, List.set_cons_zero, List.set_cons_succ]
    refine wpAnyH_take (i := 11) (oi := { dst := some 46, op := Op.move (Operand.tmp 4), type := 44, pos := "law.go:77", after := #[{ on := 10, ground := Ground.guard }], guard := some (10, true) }) (v := ?_) rfl (by kernel_rfl) (by kernel_rfl) (by kernel_rfl) (fun _ _ _ h => h) (Or.inl ⟨by rfl, ?_⟩) (by assumption) ?_
    rotate_left
    · intro w hSw; (try dsimp only at hSw); go_simp <;> with_reducible rfl
    simp only [Act.put, List.setIfInBounds_toArray, List.set_cons_zero, List.set_cons_succ]
    refine wpAnyH_take (i := 12) (oi := { dst := some 47, op := Op.move (Operand.tmp 7), type := 44, pos := "law.go:77", after := #[{ on := 10, ground := Ground.guard }], guard := some (10, true) }) (v := ?_) rfl (by kernel_rfl) (by kernel_rfl) (by kernel_rfl) (fun _ _ _ h => h) (Or.inl ⟨by rfl, ?_⟩) (by assumption) ?_
    rotate_left
    · intro w hSw; (try dsimp only at hSw); go_simp <;> with_reducible rfl
    simp only [Act.put, List.setIfInBounds_toArray, List.set_cons_zero, List.set_cons_succ]
    refine wpAnyH_ready (rs := [13]) (by kernel_rfl) (by simp) ?_
    refine AllReadyH.cons (o := { dst := some 48, op := Op.call { callee := Callee.value (Operand.func 22), args := #[Operand.tmp 46, Operand.tmp 47], argTypes := #[44, 44] }, type := 4, pos := "law.go:77", after := #[{ on := 11, ground := Ground.data }, { on := 12, ground := Ground.data }, { on := 10, ground := Ground.chain }, { on := 10, ground := Ground.guard }], guard := some (10, true) }) rfl (fun K hK => ?_) AllReadyH.nil
    go_simp
    go_at_call 22; refine KR.out.mono ?_; rintro e' w4 ⟨rfl, hb4⟩; have hb4' := hide' hb4; clear hb4; (try dsimp only)
    refine hK.out _ _ ?_ (fun hHeld => ?_)
    · trivial
    clear hK K
    try simp only [Act.put, List.setIfInBounds_toArray, List.set_cons_zero, List.set_cons_succ]
    refine wpAnyH_take (i := 14) (oi := { dst := some 49, op := Op.pick (Operand.tmp 45) (Operand.tmp 48) (Operand.const (Value.bool false)), type := 4, pos := "law.go:77", after := #[{ on := 10, ground := Ground.data }, { on := 13, ground := Ground.data }], guard := none }) (v := ?_) rfl (by kernel_rfl) (by kernel_rfl) (by kernel_rfl) (fun _ _ _ h => h) (Or.inl ⟨by rfl, ?_⟩) (by assumption) ?_
    rotate_left
    · intro w hSw; (try dsimp only at hSw); go_simp <;> with_reducible rfl
    simp only [Act.put, List.setIfInBounds_toArray, List.set_cons_zero, List.set_cons_succ]
    refine wpAnyH_take (i := 15) (oi := { dst := some 50, op := Op.move (Operand.tmp 49), type := 4, pos := "law.go:77", after := #[{ on := 14, ground := Ground.data }, { on := 13, ground := Ground.chain }], guard := none }) (v := ?_) rfl (by kernel_rfl) (by kernel_rfl) (by kernel_rfl) (fun _ _ _ h => h) (Or.inl ⟨by rfl, ?_⟩) (by assumption) ?_
    rotate_left
    · intro w hSw; (try dsimp only at hSw); go_simp <;> with_reducible rfl
    simp only [Act.put, List.setIfInBounds_toArray, List.set_cons_zero, List.set_cons_succ]
    refine wpAnyH_take (i := 16) (oi := { dst := some 51, op := Op.move (Operand.tmp 3), type := 29, pos := "law.go:77", after := #[{ on := 15, ground := Ground.guard }], guard := some (15, true) }) (v := ?_) rfl (by kernel_rfl) (by kernel_rfl) (by kernel_rfl) (fun _ _ _ h => h) (Or.inl ⟨by rfl, ?_⟩) (by assumption) ?_
    rotate_left
    · intro w hSw; (try dsimp only at hSw); go_simp <;> with_reducible rfl
    simp only [Act.put, List.setIfInBounds_toArray, List.set_cons_zero, List.set_cons_succ]
    refine wpAnyH_take (i := 17) (oi := { dst := some 52, op := Op.binOp BinOp.eql 29 (Operand.tmp 51) (Operand.const (Value.pointer none)) 29, type := 4, pos := "law.go:77", after := #[{ on := 16, ground := Ground.data }, { on := 15, ground := Ground.guard }], guard := some (15, true) }) (v := ?_) rfl (by kernel_rfl) (by kernel_rfl) (by kernel_rfl) (fun _ _ _ h => h) (Or.inl ⟨by rfl, ?_⟩) (by assumption) ?_
    rotate_left
    · intro w hSw; (try dsimp only at hSw); go_simp <;> with_reducible rfl
    simp only [Act.put, List.setIfInBounds_toArray, List.set_cons_zero, List.set_cons_succ]
    refine wpAnyH_take (i := 18) (oi := { dst := some 53, op := Op.move (Operand.tmp 52), type := 4, pos := "law.go:77", after := #[{ on := 17, ground := Ground.data }, { on := 15, ground := Ground.chain }, { on := 15, ground := Ground.guard }], guard := some (15, true) }) (v := ?_) rfl (by kernel_rfl) (by kernel_rfl) (by kernel_rfl) (fun _ _ _ h => h) (Or.inl ⟨by rfl, ?_⟩) (by assumption) ?_
    rotate_left
    · intro w hSw; (try dsimp only at hSw); go_simp <;> with_reducible rfl
    simp only [Act.put, List.setIfInBounds_toArray, List.set_cons_zero, List.set_cons_succ]
    refine wpAnyH_take (i := 19) (oi := { dst := some 54, op := Op.move (Operand.tmp 3), type := 29, pos := "law.go:77", after := #[{ on := 18, ground := Ground.guard }], guard := some (18, false) }) (v := undef) rfl (by kernel_rfl) (by kernel_rfl) (by kernel_rfl) (fun _ _ _ h => h) (Or.inr ⟨by rfl, rfl⟩) (by assumption) ?_
    simp only [Act.put, List.setIfInBounds_toArray, List.set_cons_zero, List.set_cons_succ]
    refine wpAnyH_take (i := 20) (oi := { dst := some 55, op := Op.call { callee := Callee.value (Operand.func 23), args := #[Operand.tmp 54], argTypes := #[29] }, type := 3, pos := "law.go:77", after := #[{ on := 19, ground := Ground.data }, { on := 18, ground := Ground.chain }, { on := 18, ground := Ground.guard }], guard := some (18, false) }) (v := undef) rfl (by kernel_rfl) (by kernel_rfl) (by kernel_rfl) (fun _ _ _ h => h) (Or.inr ⟨by rfl, rfl⟩) (by assumption) ?_
    simp only [Act.put, List.setIfInBounds_toArray, List.set_cons_zero, List.set_cons_succ]
    refine wpAnyH_take (i := 21) (oi := { dst := some 56, op := Op.move (Operand.tmp 6), type := 30, pos := "law.go:77", after := #[{ on := 18, ground := Ground.guard }], guard := some (18, false) }) (v := undef) rfl (by kernel_rfl) (by kernel_rfl) (by kernel_rfl) (fun _ _ _ h => h) (Or.inr ⟨by rfl, rfl⟩) (by assumption) ?_
    simp only [Act.put, List.setIfInBounds_toArray, List.set_cons_zero, List.set_cons_succ]
    refine wpAnyH_take (i := 22) (oi := { dst := some 57, op := Op.nilCheck (Operand.tmp 56), type := 0, pos := "law.go:77", after := #[{ on := 21, ground := Ground.data }, { on := 18, ground := Ground.guard }], guard := some (18, false) }) (v := undef) rfl (by kernel_rfl) (by kernel_rfl) (by kernel_rfl) (fun _ _ _ h => h) (Or.inr ⟨by rfl, rfl⟩) (by assumption) ?_
    simp only [Act.put, List.setIfInBounds_toArray, List.set_cons_zero, List.set_cons_succ]
    refine wpAnyH_take (i := 23) (oi := { dst := some 58, op := Op.fieldAddr 68 (Operand.tmp 57) 2, type := 0, pos := "law.go:77", after := #[{ on := 22, ground := Ground.data }, { on := 18, ground := Ground.guard }], guard := some (18, false) }) (v := undef) rfl (by kernel_rfl) (by kernel_rfl) (by kernel_rfl) (fun _ _ _ h => h) (Or.inr ⟨by rfl, rfl⟩) (by assumption) ?_
    simp only [Act.put, List.setIfInBounds_toArray, List.set_cons_zero, List.set_cons_succ]
    refine wpAnyH_take (i := 24) (oi := { dst := some 59, op := Op.load 3 (Operand.tmp 58), type := 3, pos := "law.go:77", after := #[{ on := 23, ground := Ground.data }, { on := 18, ground := Ground.guard }], guard := some (18, false) }) (v := undef) rfl (by kernel_rfl) (by kernel_rfl) (by kernel_rfl) (fun _ _ _ h => h) (Or.inr ⟨by rfl, rfl⟩) (by assumption) ?_
    simp only [Act.put, List.setIfInBounds_toArray, List.set_cons_zero, List.set_cons_succ]
    refine wpAnyH_take (i := 25) (oi := { dst := some 60, op := Op.binOp BinOp.eql 3 (Operand.tmp 55) (Operand.tmp 59) 3, type := 4, pos := "law.go:77", after := #[{ on := 20, ground := Ground.data }, { on := 24, ground := Ground.data }, { on := 18, ground := Ground.guard }], guard := some (18, false) }) (v := undef) rfl (by kernel_rfl) (by kernel_rfl) (by kernel_rfl) (fun _ _ _ h => h) (Or.inr ⟨by rfl, rfl⟩) (by assumption) ?_
    simp only [Act.put, List.setIfInBounds_toArray, List.set_cons_zero, List.set_cons_succ]
    refine wpAnyH_take (i := 26) (oi := { dst := some 61, op := Op.move (Operand.tmp 60), type := 4, pos := "law.go:77", after := #[{ on := 25, ground := Ground.data }, { on := 20, ground := Ground.chain }, { on := 18, ground := Ground.guard }], guard := some (18, false) }) (v := undef) rfl (by kernel_rfl) (by kernel_rfl) (by kernel_rfl) (fun _ _ _ h => h) (Or.inr ⟨by rfl, rfl⟩) (by assumption) ?_
    simp only [Act.put, List.setIfInBounds_toArray, List.set_cons_zero, List.set_cons_succ]
    refine wpAnyH_take (i := 27) (oi := { dst := some 62, op := Op.move (Operand.tmp 3), type := 29, pos := "law.go:77", after := #[{ on := 26, ground := Ground.guard }], guard := some (26, true) }) (v := undef) rfl (by kernel_rfl) (by kernel_rfl) (by kernel_rfl) (fun _ _ _ h => h) (Or.inr ⟨by rfl, rfl⟩) (by assumption) ?_
    simp only [Act.put, List.setIfInBounds_toArray, List.set_cons_zero, List.set_cons_succ]
    refine wpAnyH_take (i := 28) (oi := { dst := some 63, op := Op.call { callee := Callee.value (Operand.func 28), args := #[Operand.tmp 62], argTypes := #[29] }, type := 3, pos := "law.go:77", after := #[{ on := 27, ground := Ground.data }, { on := 26, ground := Ground.chain }, { on := 26, ground := Ground.guard }], guard := some (26, true) }) (v := undef) rfl (by kernel_rfl) (by kernel_rfl) (by kernel_rfl) (fun _ _ _ h => h) (Or.inr ⟨by rfl, rfl⟩) (by assumption) ?_
    simp only [Act.put, List.setIfInBounds_toArray, List.set_cons_zero, List.set_cons_succ]
    refine wpAnyH_take (i := 29) (oi := { dst := some 64, op := Op.move (Operand.tmp 6), type := 30, pos := "law.go:77", after := #[{ on := 26, ground := Ground.guard }], guard := some (26, true) }) (v := undef) rfl (by kernel_rfl) (by kernel_rfl) (by kernel_rfl) (fun _ _ _ h => h) (Or.inr ⟨by rfl, rfl⟩) (by assumption) ?_
    simp only [Act.put, List.setIfInBounds_toArray, List.set_cons_zero, List.set_cons_succ]
    refine wpAnyH_take (i := 30) (oi := { dst := some 65, op := Op.nilCheck (Operand.tmp 64), type := 0, pos := "law.go:77", after := #[{ on := 29, ground := Ground.data }, { on := 26, ground := Ground.guard }], guard := some (26, true) }) (v := undef) rfl (by kernel_rfl) (by kernel_rfl) (by kernel_rfl) (fun _ _ _ h => h) (Or.inr ⟨by rfl, rfl⟩) (by assumption) ?_
    simp only [Act.put, List.setIfInBounds_toArray, List.set_cons_zero, List.set_cons_succ]
    refine wpAnyH_take (i := 31) (oi := { dst := some 66, op := Op.fieldAddr 68 (Operand.tmp 65) 3, type := 0, pos := "law.go:77", after := #[{ on := 30, ground := Ground.data }, { on := 26, ground := Ground.guard }], guard := some (26, true) }) (v := undef) rfl (by kernel_rfl) (by kernel_rfl) (by kernel_rfl) (fun _ _ _ h => h) (Or.inr ⟨by rfl, rfl⟩) (by assumption) ?_
    simp only [Act.put, List.setIfInBounds_toArray, List.set_cons_zero, List.set_cons_succ]
    refine wpAnyH_take (i := 32) (oi := { dst := some 67, op := Op.load 3 (Operand.tmp 66), type := 3, pos := "law.go:77", after := #[{ on := 31, ground := Ground.data }, { on := 26, ground := Ground.guard }], guard := some (26, true) }) (v := undef) rfl (by kernel_rfl) (by kernel_rfl) (by kernel_rfl) (fun _ _ _ h => h) (Or.inr ⟨by rfl, rfl⟩) (by assumption) ?_
    simp only [Act.put, List.setIfInBounds_toArray, List.set_cons_zero, List.set_cons_succ]
    refine wpAnyH_take (i := 33) (oi := { dst := some 68, op := Op.binOp BinOp.eql 3 (Operand.tmp 63) (Operand.tmp 67) 3, type := 4, pos := "law.go:77", after := #[{ on := 28, ground := Ground.data }, { on := 32, ground := Ground.data }, { on := 26, ground := Ground.guard }], guard := some (26, true) }) (v := undef) rfl (by kernel_rfl) (by kernel_rfl) (by kernel_rfl) (fun _ _ _ h => h) (Or.inr ⟨by rfl, rfl⟩) (by assumption) ?_
    simp only [Act.put, List.setIfInBounds_toArray, List.set_cons_zero, List.set_cons_succ]
    refine wpAnyH_take (i := 34) (oi := { dst := some 69, op := Op.pick (Operand.tmp 61) (Operand.tmp 68) (Operand.const (Value.bool false)), type := 4, pos := "law.go:77", after := #[{ on := 26, ground := Ground.data }, { on := 33, ground := Ground.data }, { on := 18, ground := Ground.guard }], guard := some (18, false) }) (v := undef) rfl (by kernel_rfl) (by kernel_rfl) (by kernel_rfl) (fun _ _ _ h => h) (Or.inr ⟨by rfl, rfl⟩) (by assumption) ?_
    simp only [Act.put, List.setIfInBounds_toArray, List.set_cons_zero, List.set_cons_succ]
    refine wpAnyH_take (i := 35) (oi := { dst := some 70, op := Op.move (Operand.tmp 69), type := 4, pos := "law.go:77", after := #[{ on := 34, ground := Ground.data }, { on := 28, ground := Ground.chain }, { on := 18, ground := Ground.guard }], guard := some (18, false) }) (v := undef) rfl (by kernel_rfl) (by kernel_rfl) (by kernel_rfl) (fun _ _ _ h => h) (Or.inr ⟨by rfl, rfl⟩) (by assumption) ?_
    simp only [Act.put, List.setIfInBounds_toArray, List.set_cons_zero, List.set_cons_succ]
    refine wpAnyH_take (i := 36) (oi := { dst := some 71, op := Op.move (Operand.tmp 3), type := 29, pos := "law.go:77", after := #[{ on := 35, ground := Ground.guard }], guard := some (35, true) }) (v := undef) rfl (by kernel_rfl) (by kernel_rfl) (by kernel_rfl) (fun _ _ _ h => h) (Or.inr ⟨by rfl, rfl⟩) (by assumption) ?_
    simp only [Act.put, List.setIfInBounds_toArray, List.set_cons_zero, List.set_cons_succ]
    refine wpAnyH_take (i := 37) (oi := { dst := some 72, op := Op.call { callee := Callee.value (Operand.func 29), args := #[Operand.tmp 71], argTypes := #[29] }, type := 3, pos := "law.go:77", after := #[{ on := 36, ground := Ground.data }, { on := 35, ground := Ground.chain }, { on := 35, ground := Ground.guard }], guard := some (35, true) }) (v := undef) rfl (by kernel_rfl) (by kernel_rfl) (by kernel_rfl) (fun _ _ _ h => h) (Or.inr ⟨by rfl, rfl⟩) (by assumption) ?_
    simp only [Act.put, List.setIfInBounds_toArray, List.set_cons_zero, List.set_cons_succ]
    refine wpAnyH_take (i := 38) (oi := { dst := some 73, op := Op.move (Operand.tmp 6), type := 30, pos := "law.go:77", after := #[{ on := 35, ground := Ground.guard }], guard := some (35, true) }) (v := undef) rfl (by kernel_rfl) (by kernel_rfl) (by kernel_rfl) (fun _ _ _ h => h) (Or.inr ⟨by rfl, rfl⟩) (by assumption) ?_
    simp only [Act.put, List.setIfInBounds_toArray, List.set_cons_zero, List.set_cons_succ]
    refine wpAnyH_take (i := 39) (oi := { dst := some 74, op := Op.call { callee := Callee.value (Operand.func 31), args := #[Operand.tmp 73], argTypes := #[30] }, type := 3, pos := "law.go:77", after := #[{ on := 38, ground := Ground.data }, { on := 37, ground := Ground.chain }, { on := 35, ground := Ground.guard }], guard := some (35, true) }) (v := undef) rfl (by kernel_rfl) (by kernel_rfl) (by kernel_rfl) (fun _ _ _ h => h) (Or.inr ⟨by rfl, rfl⟩) (by assumption) ?_
    simp only [Act.put, List.setIfInBounds_toArray, List.set_cons_zero, List.set_cons_succ]
    refine wpAnyH_take (i := 40) (oi := { dst := some 75, op := Op.binOp BinOp.eql 3 (Operand.tmp 72) (Operand.tmp 74) 3, type := 4, pos := "law.go:77", after := #[{ on := 37, ground := Ground.data }, { on := 39, ground := Ground.data }, { on := 35, ground := Ground.guard }], guard := some (35, true) }) (v := undef) rfl (by kernel_rfl) (by kernel_rfl) (by kernel_rfl) (fun _ _ _ h => h) (Or.inr ⟨by rfl, rfl⟩) (by assumption) ?_
    simp only [Act.put, List.setIfInBounds_toArray, List.set_cons_zero, List.set_cons_succ]
    refine wpAnyH_take (i := 41) (oi := { dst := some 76, op := Op.pick (Operand.tmp 70) (Operand.tmp 75) (Operand.const (Value.bool false)), type := 4, pos := "law.go:77", after := #[{ on := 35, ground := Ground.data }, { on := 40, ground := Ground.data }, { on := 18, ground := Ground.guard }], guard := some (18, false) }) (v := undef) rfl (by kernel_rfl) (by kernel_rfl) (by kernel_rfl) (fun _ _ _ h => h) (Or.inr ⟨by rfl, rfl⟩) (by assumption) ?_
    simp only [Act.put, List.setIfInBounds_toArray, List.set_cons_zero, List.set_cons_succ]
    refine wpAnyH_take (i := 42) (oi := { dst := some 77, op := Op.pick (Operand.tmp 53) (Operand.const (Value.bool true)) (Operand.tmp 76), type := 4, pos := "law.go:77", after := #[{ on := 18, ground := Ground.data }, { on := 41, ground := Ground.data }, { on := 15, ground := Ground.guard }], guard := some (15, true) }) (v := ?_) rfl (by kernel_rfl) (by kernel_rfl) (by kernel_rfl) (fun _ _ _ h => h) (Or.inl ⟨by rfl, ?_⟩) (by assumption) ?_
    rotate_left
    · intro w hSw; (try dsimp only at hSw); go_simp <;> with_reducible rfl
    simp only [Act.put, List.setIfInBounds_toArray, List.set_cons_zero, List.set_cons_succ]
    refine wpAnyH_take (i := 43) (oi := { dst := some 78, op := Op.pick (Operand.tmp 50) (Operand.tmp 77) (Operand.const (Value.bool false)), type := 4, pos := "law.go:77", after := #[{ on := 15, ground := Ground.data }, { on := 42, ground := Ground.data }], guard := none }) (v := ?_) rfl (by kernel_rfl) (by kernel_rfl) (by kernel_rfl) (fun _ _ _ h => h) (Or.inl ⟨by rfl, ?_⟩) (by assumption) ?_
    rotate_left
    · intro w hSw; (try dsimp only at hSw); go_simp <;> with_reducible rfl
    simp only [Act.put, List.setIfInBounds_toArray, List.set_cons_zero, List.set_cons_succ]
    refine wpAnyH_take (i := 44) (oi := { dst := some 2, op := Op.assign (Operand.tmp 78), type := 4, pos := "law.go:77", after := #[{ on := 43, ground := Ground.data }, { on := 39, ground := Ground.chain }, { on := 0, ground := Ground.phase }, { on := 1, ground := Ground.phase }, { on := 2, ground := Ground.phase }, { on := 3, ground := Ground.phase }, { on := 4, ground := Ground.phase }, { on := 5, ground := Ground.phase }, { on := 6, ground := Ground.phase }, { on := 7, ground := Ground.phase }, { on := 8, ground := Ground.phase }, { on := 9, ground := Ground.phase }, { on := 10, ground := Ground.phase }, { on := 11, ground := Ground.phase }, { on := 12, ground := Ground.phase }, { on := 13, ground := Ground.phase }, { on := 14, ground := Ground.phase }, { on := 15, ground := Ground.phase }, { on := 16, ground := Ground.phase }, { on := 17, ground := Ground.phase }, { on := 18, ground := Ground.phase }, { on := 19, ground := Ground.phase }, { on := 20, ground := Ground.phase }, { on := 21, ground := Ground.phase }, { on := 22, ground := Ground.phase }, { on := 23, ground := Ground.phase }, { on := 24, ground := Ground.phase }, { on := 25, ground := Ground.phase }, { on := 26, ground := Ground.phase }, { on := 27, ground := Ground.phase }, { on := 28, ground := Ground.phase }, { on := 29, ground := Ground.phase }, { on := 30, ground := Ground.phase }, { on := 31, ground := Ground.phase }, { on := 32, ground := Ground.phase }, { on := 33, ground := Ground.phase }, { on := 34, ground := Ground.phase }, { on := 35, ground := Ground.phase }, { on := 36, ground := Ground.phase }, { on := 37, ground := Ground.phase }, { on := 38, ground := Ground.phase }, { on := 39, ground := Ground.phase }, { on := 40, ground := Ground.phase }, { on := 41, ground := Ground.phase }, { on := 42, ground := Ground.phase }, { on := 43, ground := Ground.phase }], guard := none }) (v := ?_) rfl (by kernel_rfl) (by kernel_rfl) (by kernel_rfl) (fun _ _ _ h => h) (Or.inl ⟨by rfl, ?_⟩) (by assumption) ?_
    rotate_left
    · intro w hSw; (try dsimp only at hSw); go_simp <;> with_reducible rfl
    simp only [Act.put, List.setIfInBounds_toArray, List.set_cons_zero, List.set_cons_succ]
    refine wpAnyH_done (by kernel_rfl) ?_ _
    refine NoPanic.normal ?_
    go_wp2_with fail
    have hb5 : Hid (Below w3.heap.size w3 w4) := (Below.refl _ w3).drew.trans hb4'.out
    go_ret
    exact ⟨rfl, none, hQ3.out.up hb5.out, (hb5.out.block s (blk_lt hs3.out)).trans hs3.out, hbe.out.trans (hb5.out.mono (by have := hbe.out.size; have := hB'.out.2; omega))⟩
  | some x =>
    obtain ⟨R, p, b⟩ := x
    rw [hO] at KA KB
    unfold OaF at KA
    unfold ObF at KB
    clear hO
    go_enter Try.func10, Try.ntmps10
    go_upto_region 2 with (go_at_call 15; refine KA.out.mono ?_; rintro e' w1 ⟨pv, lv, rfl, hd1, hk1, hf1⟩; obtain ⟨gj, rfl, hj1, hg1, hl1, hpn, hRp⟩ := hf1.out)
    have hr1 := hide' (hQ.out.rk.kp hk1.out hne.out.1.symm hne.out.2.2.1.symm hne.out.2.1.symm hQ.out.ne.symm)
    have hs1 : Hid (SbA w1 s g r pv0 qv0) := (hk1.out.block s hlt.out.2.2.2.2 hne.out.2.2.2.1 hne.out.2.2.2.2.1).trans hS.out
    obtain ⟨d0, d1, d2, d3⟩ := hs1.out.cells
    have hsf := hs1.out.free
    go_upto_region 3 with (go_at_call 30; refine (KB.out w1 hr1.out).mono ?_; rintro e' w2 ⟨qv, mv, rfl, hd2, hk2, hf2⟩; obtain ⟨q, rfl, hj2, hg2, hl2, _, _⟩ := hf2.out)
    have hs2 : Hid (SbA w2 s g r pv0 qv0) := (hk2.out.block s (Nat.lt_of_lt_of_le hlt.out.2.2.2.2 hk1.out.size) hne.out.2.2.2.2.2.1 hne.out.2.2.2.2.2.2).trans hs1.out
    obtain ⟨b0, b1, b2, b3⟩ := hs2.out.cells
    have hbf := hs2.out.free
    have hs3 := hide' ((hs2.out.set2 (.pointer (some ⟨gj, 0, none⟩))).set3 (.pointer (some ⟨q, 0, none⟩)))
    have hk3 : Hid (Kp s s w2 ((w2.setCell ⟨s, 2, none⟩ (.pointer (some ⟨gj, 0, none⟩))).setCell ⟨s, 3, none⟩ (.pointer (some ⟨q, 0, none⟩)))) := ((Kp.refl _ _ _).set _ _).set _ _
    clear hf1 hf2
    go_upto_region 5 with fail
    generalize (w2.setCell ⟨s, 2, none⟩ (.pointer (some ⟨gj, 0, none⟩))).setCell ⟨s, 3, none⟩ (.pointer (some ⟨q, 0, none⟩)) = w3 at *
    have hb1 := bt1_lt b
    generalize bt1 b = bo at *
    have hA := hide' (after3 hQ.out hne.out hlt.out hB'.out hd1.out hk1.out hd2.out hk2.out hk3.out)
    have hQ3 : Hid (Sk B g gb r rb cap n D2 (some (gj, q, ⟨p, R.length, bo, false⟩)) w3) := ⟨hA.out.1, hA.out.2.1, hok.out.1, hok.out.2.1, hQ.out.ne, hQ.out.lo, fun x hx => by
      cases hx
      exact ⟨(hA.out.2.2.2.1 gj hg1.out (blk_lt hj1.out)).trans hj1.out, (hA.out.2.2.2.2 q (Nat.le_trans hk1.out.size hg2.out) (blk_lt hj2.out)).trans hj2.out, hpn, hRp, hb1, Nat.le_trans hB'.out.2 hg1.out, Nat.le_trans hB'.out.2 (Nat.le_trans hk1.out.size hg2.out)⟩⟩
    have hra : Hid (RowR w3.drew lv R) := hl1.out w3.drew (fun k a b => hA.out.2.2.2.1 k b a)
    have hrb : Hid (RowR w3.drew mv R) := hl2.out w3.drew (fun k a b => hA.out.2.2.2.2 k (Nat.le_trans hk1.out.size b) a)
    have KR := hide' (rowsF hra.out hrb.out (by omega))
    have hbe := hide' hA.out.2.2.1
    clear hA hd1 hd2 hk1 hk2 hk3 hs1 hs2 hr1 KA KB hj1 hj2 hl1 hl2 hra hrb hg1 hg2
    have KL := hide' (fun V (hV : Sk B g gb r rb cap n D2 (some (gj, q, ⟨p, R.length, bo, false⟩)) V) => lenF (hV.jn _ rfl).1)
    have KBo := hide' (fun V (hV : Sk B g gb r rb cap n D2 (some (gj, q, ⟨p, R.length, bo, false⟩)) V) => bootsF (hV.jn _ rfl).1 hb1)
    have KRp := hide' (fun V (hV : Sk B g gb r rb cap n D2 (some (gj, q, ⟨p, R.length, bo, false⟩)) V) => roomF (hV.jn _ rfl).1 hV.dk hV.ok.len hV.ok.most (by show p ≤ _; omega))
    have KRd := hide' (fun V (hV : Sk B g gb r rb cap n D2 (some (gj, q, ⟨p, R.length, bo, false⟩)) V) => roomD (hV.jn _ rfl).2.1 hV.rk hV.ok.len hV.ok.most (by show p ≤ _; omega))
    have hcl := hide' (fun V (hV : Sk B g gb r rb cap n D2 (some (gj, q, ⟨p, R.length, bo, false⟩)) V) => And.intro (hV.jn _ rfl).2.1.cells.2.2.1 (hV.jn _ rfl).2.1.cells.2.2.2.1)
    have hQd := hide' (hQ3.out.up (Below.refl _ w3).drew)
    simp only at KL KBo KRp KRd hcl
    generalize roomI n p = ro at *
    generalize R.length = m at *
    go_wp2_with fail
    go_region_held3 (fun V => V.cell? ⟨q, 2, none⟩ = some (.int .i64 (m : Int)) ∧ V.cell? ⟨q, 3, none⟩ = some (.int .i64 (bo : Int))) (first | (exact hcl.out _ hQd.out) | (exact hcl.out _ hQ4.out) | (exact hcl.out _ hQ5.out) | (exact hcl.out _ hQ6.out)) (first | (go_at_call 22; refine KR.out.mono ?_; rintro e' w4 ⟨rfl, hb4⟩; have hQ4 := hide' (hQd.out.up hb4); have hb4' := hide' hb4; clear hb4) | (go_at_call 23; refine (KL.out w4 hQ4.out).mono ?_; rintro e' w7 ⟨rfl, hw7⟩; obtain rfl : w4 = w7 := hw7.symm) | (go_at_call 28; refine (KBo.out w4 hQ4.out).mono ?_; rintro e' w7 ⟨rfl, hw7⟩; obtain rfl : w4 = w7 := hw7.symm) | (go_at_call 29; refine (KRp.out w4 hQ4.out).mono ?_; rintro e' w5 ⟨rfl, hb5⟩; have hQ5 := hide' (hQ4.out.up hb5); have hb5' := hide' hb5; clear hb5) | (go_at_call 31; refine (KRd.out w5 hQ5.out).mono ?_; rintro e' w6 ⟨rfl, hb6⟩; have hQ6 := hide' (hQ5.out.up hb6); have hb6' := hide' hb6; clear hb6))
    go_wp2_with fail
    have hb7 : Hid (Below w3.heap.size w3 w6) := ((Below.refl _ w3).drew.trans (hb4'.out.trans ((hb5'.out.mono hb4'.out.size).trans (hb6'.out.mono (Nat.le_trans hb4'.out.size hb5'.out.size)))))
    go_ret
    exact ⟨rfl, some (gj, q, ⟨p, m, bo, false⟩), hQ6, (hb7.out.block s (blk_lt hs3.out)).trans hs3.out, hbe.out.trans (hb7.out.mono (by have := hbe.out.size; have := hB'.out.2; omega))⟩
end Go.Proofs.Ytmhbidnpfefjpaa
