/- The document's New: a table of bools, or why there is none. -/
import Derived.Test.YtahfobbiaimoiaaGreatDoorJ07
import Derived.Deep.RegionHeld3
import Derived.Deep.OwnRows
namespace Go.Proofs.YtahfobbiaimoiaaGreatDoor.O
open Go.RowKit Go.Shelf
theorem infoB : (Tryz.prog.info? 4).map (fun i => (i.zero, i.size, i.bytes)) = some (some (.bool false), 1, 1) := by kernel_rfl
theorem infoBs : (Tryz.prog.info? 166).map (fun i => (i.zero, i.size, i.bytes)) = some (some (.slice none 0 0), 1, 24) := by kernel_rfl
theorem info_r {P : Program} {t : TypeId} {z : Option Value} {s b : Nat} (h : (P.info? t).map (fun i => (i.zero, i.size, i.bytes)) = some (z, s, b)) : ∃ i, P.info? t = some i ∧ i.zero = z ∧ i.size = s ∧ i.bytes = b := by
  cases e : P.info? t with
  | none => rw [e] at h; cases h
  | some i => rw [e] at h; simp at h; exact ⟨i, rfl, h.1, h.2.1, h.2.2⟩
theorem makeB (m : Nat) (hm : m ≤ 64) (W : World) : (Instr.makeSlice 166 (.int .i64 (m : Int)) (.int .i64 (m : Int))).run Tryz.prog W = .ok (.slice (some ⟨W.heap.size, 0, none⟩) m m) (W.alloc (.cells (madeCells #[.bool false] m) 4)) := by
  obtain ⟨i, hi, hz, hs, hb⟩ := info_r infoB
  have hr := run_make (P := Tryz.prog) W 166 4 i _ Tryz.underlying166 hi hz .i64 .i64 m m (by omega) (Int.le_refl _) (by rw [hb]; omega) (by omega)
  simp only [Int.toNat_natCast, hs, Nat.mul_one] at hr
  exact hr
theorem bools_false (m : Nat) : bools m (fun _ => false) = List.replicate m (.bool false) := by
  apply List.ext_getElem?
  intro i
  by_cases h : i < m
  · rw [bools_at _ h]; simp [h]
  · rw [List.getElem?_eq_none (by rw [bools_len]; omega), List.getElem?_eq_none (by simp; omega)]
theorem made_bools {W : World} {g m B : Nat} (hm : m ≤ 64) (hB : B ≤ g) (h : W.heap[g]? = some (.cells (madeCells #[.bool false] m) 4 (0, 0))) : W.ownsRow B 4 1 (.slice (some ⟨g, 0, none⟩) m m) m (bools m (fun _ => false)) :=
  ⟨by rw [bools_len, Nat.mul_one], .inr ⟨g, m, _, rfl, hB, h, Nat.le_refl _, by unfold maxLen; omega, by rw [size_madeCells, Nat.mul_one], by rw [toList_madeCells_one, Nat.mul_one, bools_false, List.take_of_length_le (by simp)]⟩⟩
theorem cell_new' {W : World} {b i : Nat} {v : Value} (h : W.cell? ⟨b, i, none⟩ = some v) (o : Obj) : (W.alloc o).cell? ⟨b, i, none⟩ = some v := cell_over h ((Below.refl _ W).alloc (Nat.le_refl _) o)
/-- What the document's New answers. -/
def RefR (w : World) (n : Int) (L : List (Int × Int)) (e : Ending) (w' : World) : Prop :=
  Below w.heap.size w w' ∧
    ((¬ goodP n L ∧ e = .returned (.tuple #[.pointer none, .int .i64 1])) ∨
     (goodP n L ∧ cycL n.toNat L ∧ e = .returned (.tuple #[.pointer none, .int .i64 6])) ∨
     (goodP n L ∧ ¬ cycL n.toNat L ∧ ∃ go ov gr, e = .returned (.tuple #[.pointer (some ⟨go, 0, none⟩), .int .i64 0]) ∧ Mat w go n.toNat n.toNat (ordL n.toNat L) ov gr w'))
set_option maxRecDepth 100000 in
set_option maxHeartbeats 1000000 in
theorem refNew (n : Int) (v : Value) (L : List (Int × Int)) (w : World) (hv : PairsAt w v L) (hl : L.length ≤ 9000000000000000000) :
    Calls Tryz.prog 82 #[.int .i64 n, v] w (RefR w n L) := by
  obtain ⟨oa, cap, rfl, hcap, hcl⟩ := hv
  obtain ⟨i0, hi0, hz0, hs0, hb0⟩ := info_r infoB
  obtain ⟨i1, hi1, hz1, hs1, hb1⟩ := info_r infoBs
  go_enter Tryz.func82, Tryz.ntmps82
  by_cases hn : 0 ≤ n ∧ n ≤ 64
  · obtain ⟨m, rfl⟩ := Int.eq_ofNat_of_zero_le hn.1
    have hm : m ≤ 64 := by omega
    have hcl' := hide' hcl
    clear hcl
    go_wp2
    go_loop [6] (fun p => ∃ c : Nat, c ≤ L.length ∧ p = .int .i64 c ∧ Hid (∀ (i : Nat) q, i < c → L[i]? = some q → okP m q)) (fun p => ((L.length : Int) - intOf p).toNat)
    case atStart => exact ⟨0, Nat.zero_le _, rfl, fun i q hi => by omega⟩
    case round =>
      obtain ⟨c, hc, rfl, hok⟩ := hrel
      by_cases hlt : c < L.length
      · obtain ⟨q, hq⟩ : ∃ q, L[c]? = some q := ⟨_, List.getElem?_eq_getElem hlt⟩
        obtain ⟨g, o, rfl, c1, c2⟩ := hcl'.out c q hq
        have hq' := hide' hq
        clear hq
        have hcap1 := hcap.1
        by_cases ok : okP m q
        · have hok2 : Hid (∀ (i : Nat) q, i < c + 1 → L[i]? = some q → okP m q) := fun i r hi hr => by
            by_cases e : i = c
            · subst e; rw [hq'.out] at hr; cases hr; exact ok
            · exact hok.out i r (by omega) hr
          obtain ⟨⟨o1, o2⟩, o3, o4⟩ := ok
          clear hok hcap
          go_wp2
          exact ⟨⟨c + 1, by omega, by go_num, hok2⟩, by simp [intOf]; omega⟩
        · have hbad : Hid (¬ goodP m L) := fun h => ok (h.2 q (List.mem_of_getElem? hq'.out))
          have hno : q.1 < 0 ∨ (0 ≤ q.1 ∧ (m : Int) ≤ q.1) ∨ ((0 ≤ q.1 ∧ q.1 < m) ∧ q.2 < 0) ∨ ((0 ≤ q.1 ∧ q.1 < m) ∧ 0 ≤ q.2 ∧ (m : Int) ≤ q.2) := by
            unfold okP at ok; omega
          clear hok hcap ok
          rcases hno with h | ⟨h1, h2⟩ | ⟨⟨h1, h2⟩, h3⟩ | ⟨⟨h1, h2⟩, h3, h4⟩
          all_goals
            go_wp2
            go_ret2
            exact ⟨Below.refl _ _, .inl ⟨hbad.out, rfl⟩⟩
      · obtain rfl : c = L.length := by omega
        have hgood : Hid (∀ q ∈ L, okP m q) := fun q hq => by
          obtain ⟨i, hi⟩ := List.getElem?_of_mem hq
          exact hok.out i q (List.getElem?_eq_some_iff.1 hi).1 hi
        clear hok hlt
        go_wp2
        have hM0 : Mat w w.heap.size m 0 (fun _ _ => false) (.slice none 0 0) (fun _ => 0) (w.alloc (.cells #[.int .i64 (m : Int), .slice none 0 0] 165)) :=
          ⟨World.alloc_heap_new w _, World.ownsRow_nil _ _ _ _, fun i hi => by omega, fun i j hi => by omega, Nat.le_refl _, (Below.refl _ w).alloc (Nat.le_refl _) _⟩
        go_loopw [8] (fun p wr => ∃ (c : Nat) (ov : Value) (gr : Nat → Nat), c ≤ m ∧ p = .int .i64 c ∧ Mat w w.heap.size m c (fun _ _ => false) ov gr wr) (fun p _ => ((m : Int) - intOf p).toNat)
        case atStart => exact ⟨0, _, _, Nat.zero_le _, rfl, hM0⟩
        case round =>
          clear hM0
          obtain ⟨c, ov, gr, hcm, rfl, hM⟩ := hrel
          by_cases hlt : c < m
          · have hmk : ∀ W : World, (Instr.makeSlice 166 (.int .i64 (m : Int)) (.int .i64 (m : Int))).run Tryz.prog W = .ok (.slice (some ⟨W.heap.size, 0, none⟩) m m) (W.alloc (.cells (madeCells #[.bool false] m) 4)) := fun W => makeB m hm W
            have hM' := hide' hM
            have e0 := hM.c1
            have hlt0 := hM.lt
            have e1 := fun o => cell_new' e0 o
            have e2 := fun o o' => cell_new' (e1 o) o'
            clear hM
            go_wp2
            refine wp_region_held_drew (S := (fun _ => True)) (by kernel_rfl) ?_ (fun hHeld => ?_)
            · trivial
            refine wpAnyH_take (i := 0) (oi := { dst := some 66, op := Op.move (Operand.tmp 7), type := 37, pos := "ref.go:25", after := #[], guard := none }) (v := ?_) rfl (by kernel_rfl) (by kernel_rfl) (by kernel_rfl) (fun _ _ _ h => h) (Or.inl ⟨by rfl, ?_⟩) (by assumption) ?_
            rotate_left
            · intro w hSw; (try dsimp only at hSw); go_simp <;> with_reducible rfl
            simp only [Act.put, List.setIfInBounds_toArray, List.set_cons_zero, List.set_cons_succ]
            refine wpAnyH_take (i := 1) (oi := { dst := some 67, op := Op.move (Operand.tmp 7), type := 37, pos := "ref.go:25", after := #[], guard := none }) (v := ?_) rfl (by kernel_rfl) (by kernel_rfl) (by kernel_rfl) (fun _ _ _ h => h) (Or.inl ⟨by rfl, ?_⟩) (by assumption) ?_
            rotate_left
            · intro w hSw; (try dsimp only at hSw); go_simp <;> with_reducible rfl
            simp only [Act.put, List.setIfInBounds_toArray, List.set_cons_zero, List.set_cons_succ]
            refine wpAnyH_take (i := 2) (oi := { dst := some 68, op := Op.nilCheck (Operand.tmp 67), type := 0, pos := "ref.go:25", after := #[{ on := 1, ground := Ground.data }], guard := none }) (v := ?_) rfl (by kernel_rfl) (by kernel_rfl) (by kernel_rfl) (fun _ _ _ h => h) (Or.inl ⟨by rfl, ?_⟩) (by assumption) ?_
            rotate_left
            · intro w hSw; (try dsimp only at hSw); go_simp <;> with_reducible rfl
            simp only [Act.put, List.setIfInBounds_toArray, List.set_cons_zero, List.set_cons_succ]
            refine wpAnyH_take (i := 3) (oi := { dst := some 69, op := Op.fieldAddr 165 (Operand.tmp 68) 1, type := 0, pos := "ref.go:25", after := #[{ on := 2, ground := Ground.data }], guard := none }) (v := ?_) rfl (by kernel_rfl) (by kernel_rfl) (by kernel_rfl) (fun _ _ _ h => h) (Or.inl ⟨by rfl, ?_⟩) (by assumption) ?_
            rotate_left
            · intro w hSw; (try dsimp only at hSw); go_simp <;> with_reducible rfl
            simp only [Act.put, List.setIfInBounds_toArray, List.set_cons_zero, List.set_cons_succ]
            refine wpAnyH_take (i := 5) (oi := { dst := some 71, op := Op.move (Operand.tmp 0), type := 3, pos := "ref.go:25", after := #[], guard := none }) (v := ?_) rfl (by kernel_rfl) (by kernel_rfl) (by kernel_rfl) (fun _ _ _ h => h) (Or.inl ⟨by rfl, ?_⟩) (by assumption) ?_
            rotate_left
            · intro w hSw; (try dsimp only at hSw); go_simp <;> with_reducible rfl
            simp only [Act.put, List.setIfInBounds_toArray, List.set_cons_zero, List.set_cons_succ]
            refine wpAnyH_ready (rs := [4, 6]) (by kernel_rfl) (by simp) ?_
            refine AllReadyH.cons (o := { dst := some 70, op := Op.load 163 (Operand.tmp 69), type := 163, pos := "ref.go:25", after := #[{ on := 3, ground := Ground.data }], guard := none }) rfl (fun K hK => ?_) ?_
            · skip
              go_simp
              refine hK.out _ _ ?_ (fun hHeld => ?_)
              · trivial
              clear hK K
              try simp only [Act.put, List.setIfInBounds_toArray, List.set_cons_zero, List.set_cons_succ]
              refine wpAnyH_ready (rs := [6]) (by kernel_rfl) (by simp) ?_
              refine AllReadyH.cons (o := { dst := some 72, op := Op.makeSlice 166 (Operand.tmp 71) (Operand.tmp 71), type := 166, pos := "ref.go:25", after := #[{ on := 5, ground := Ground.data }, { on := 5, ground := Ground.data }], guard := none }) rfl (fun K hK => ?_) AllReadyH.nil
              go_simp
              refine hK.out _ _ ?_ (fun hHeld => ?_)
              · trivial
              clear hK K
              try simp only [Act.put, List.setIfInBounds_toArray, List.set_cons_zero, List.set_cons_succ]
              refine wpAnyH_ready (rs := [7]) (by kernel_rfl) (by simp) ?_
              refine AllReadyH.cons (o := { dst := some 73, op := Op.buildSlice 163 1 #[(0, Operand.tmp 72)], type := 163, pos := "ref.go:25", after := #[{ on := 6, ground := Ground.data }], guard := none }) rfl (fun K hK => ?_) AllReadyH.nil
              go_simp
              refine hK.out _ _ ?_ (fun hHeld => ?_)
              · trivial
              clear hK K
              try simp only [Act.put, List.setIfInBounds_toArray, List.set_cons_zero, List.set_cons_succ]
              refine wpAnyH_ready (rs := [8]) (by kernel_rfl) (by simp) ?_
              refine AllReadyH.cons (o := { dst := some 74, op := Op.call { callee := Callee.builtin Builtin.append, args := #[Operand.tmp 70, Operand.tmp 73], argTypes := #[163, 163] }, type := 163, pos := "ref.go:25", after := #[{ on := 4, ground := Ground.data }, { on := 7, ground := Ground.data }], guard := none }) rfl (fun K hK => ?_) AllReadyH.nil
              have hB1 : Below wr.heap.size wr (((wr.alloc (.cells (madeCells #[.bool false] m) 4)).alloc (.cells #[.slice (some ⟨wr.heap.size, 0, none⟩) m m] 166)).drew) := ((((Below.refl _ wr).alloc (Nat.le_refl _) _).alloc (by simp) _)).drew
              have hM1 := hM'.out.over hB1
              have hr1 : (((wr.alloc (.cells (madeCells #[.bool false] m) 4)).alloc (.cells #[.slice (some ⟨wr.heap.size, 0, none⟩) m m] 166)).drew).ownsRow w.heap.size 4 1 (.slice (some ⟨wr.heap.size, 0, none⟩) m m) m (bools m fun _ => false) := made_bools hm hM'.out.bl.size ((Below.heap_alloc _ _ _ (by simp)).trans (World.alloc_heap_new wr _))
              refine step_append_lies _ rfl _ _ 163 rfl w.heap.size 166 i1 (.slice none 0 0) 1 24 Tryz.underlying163 hi1 hz1 hs1 hb1 rfl (by decide) ov c (outs m c gr) rfl hM1.outer ⟨wr.heap.size + 1, 0, none⟩ 1 1 [.slice (some ⟨wr.heap.size, 0, none⟩) m m] rfl rfl (World.news_of_block (cs := #[.slice (some ⟨wr.heap.size, 0, none⟩) m m]) (al2 wr _ _)) (by simp [Value.oneCell']) (by decide) (by unfold maxLen; omega) (by omega) (by have := hM'.out.bl.size; simp; omega) _ rfl ?_
              intro g3 cap3 w3 hown3 hgrow3 hat3 hlt3
              have hMe := hM'.out.push hB1 hr1 (Nat.le_refl _) hown3 hgrow3
              have hne3 : ov.ownBlock ≠ some w.heap.size := (fun e => by obtain ⟨_, cur', hc'⟩ := own_blk hM1.outer e; rw [hM1.ob] at hc'; simp at hc')
              have hob3 := (hgrow3.block w.heap.size hM1.lt (fun e => hne3 e.symm)).trans hM1.ob
              have e3 : w3.cell? ⟨w.heap.size, 1, none⟩ = some ov := (by simp [World.cell?, hob3])
              have f3 : w3.frozen? ⟨w.heap.size, 1, none⟩ = false := (by simp [World.frozen?, hob3])
              refine hK.out _ _ ?_ (fun hHeld => ?_)
              · trivial
              clear hK K
              try simp only [Act.put, List.setIfInBounds_toArray, List.set_cons_zero, List.set_cons_succ]
              refine wpAnyH_take (i := 9) (oi := { dst := some 75, op := Op.nilCheck (Operand.tmp 66), type := 0, pos := "ref.go:25", after := #[{ on := 0, ground := Ground.data }, { on := 0, ground := Ground.phase }, { on := 1, ground := Ground.phase }, { on := 2, ground := Ground.phase }, { on := 3, ground := Ground.phase }, { on := 4, ground := Ground.phase }, { on := 5, ground := Ground.phase }, { on := 6, ground := Ground.phase }, { on := 7, ground := Ground.phase }, { on := 8, ground := Ground.phase }], guard := none }) (v := ?_) rfl (by kernel_rfl) (by kernel_rfl) (by kernel_rfl) (fun _ _ _ h => h) (Or.inl ⟨by rfl, ?_⟩) (by assumption) ?_
              rotate_left
              · intro w hSw; (try dsimp only at hSw); go_simp <;> with_reducible rfl
              simp only [Act.put, List.setIfInBounds_toArray, List.set_cons_zero, List.set_cons_succ]
              refine wpAnyH_take (i := 10) (oi := { dst := some 76, op := Op.fieldAddr 165 (Operand.tmp 75) 1, type := 0, pos := "ref.go:25", after := #[{ on := 9, ground := Ground.data }, { on := 0, ground := Ground.phase }, { on := 1, ground := Ground.phase }, { on := 2, ground := Ground.phase }, { on := 3, ground := Ground.phase }, { on := 4, ground := Ground.phase }, { on := 5, ground := Ground.phase }, { on := 6, ground := Ground.phase }, { on := 7, ground := Ground.phase }, { on := 8, ground := Ground.phase }], guard := none }) (v := ?_) rfl (by kernel_rfl) (by kernel_rfl) (by kernel_rfl) (fun _ _ _ h => h) (Or.inl ⟨by rfl, ?_⟩) (by assumption) ?_
              rotate_left
              · intro w hSw; (try dsimp only at hSw); go_simp <;> with_reducible rfl
              simp only [Act.put, List.setIfInBounds_toArray, List.set_cons_zero, List.set_cons_succ]
              refine wpAnyH_ready (rs := [11]) (by kernel_rfl) (by simp) ?_
              refine AllReadyH.cons (o := { dst := none, op := Op.store 163 (Operand.tmp 76) (Operand.tmp 74), type := 0, pos := "ref.go:25", after := #[{ on := 10, ground := Ground.data }, { on := 8, ground := Ground.data }, { on := 8, ground := Ground.chain }, { on := 0, ground := Ground.phase }, { on := 1, ground := Ground.phase }, { on := 2, ground := Ground.phase }, { on := 3, ground := Ground.phase }, { on := 4, ground := Ground.phase }, { on := 5, ground := Ground.phase }, { on := 6, ground := Ground.phase }, { on := 7, ground := Ground.phase }, { on := 8, ground := Ground.phase }], guard := none }) rfl (fun K hK => ?_) AllReadyH.nil
              go_simp
              refine hK.out _ _ ?_ (fun hHeld => ?_)
              · trivial
              clear hK K
              try simp only [Act.put, List.setIfInBounds_toArray, List.set_cons_zero, List.set_cons_succ]
              refine wpAnyH_done (by kernel_rfl) ?_ _
              skip
              go_wp2
              exact ⟨⟨c + 1, _, _, by omega, by go_num, hMe⟩, by simp [intOf]; omega⟩
            refine AllReadyH.cons (o := { dst := some 72, op := Op.makeSlice 166 (Operand.tmp 71) (Operand.tmp 71), type := 166, pos := "ref.go:25", after := #[{ on := 5, ground := Ground.data }, { on := 5, ground := Ground.data }], guard := none }) rfl (fun K hK => ?_) AllReadyH.nil
            go_simp
            refine hK.out _ _ ?_ (fun hHeld => ?_)
            · trivial
            clear hK K
            try simp only [Act.put, List.setIfInBounds_toArray, List.set_cons_zero, List.set_cons_succ]
            refine wpAnyH_ready (rs := [4, 7]) (by kernel_rfl) (by simp) ?_
            refine AllReadyH.cons (o := { dst := some 70, op := Op.load 163 (Operand.tmp 69), type := 163, pos := "ref.go:25", after := #[{ on := 3, ground := Ground.data }], guard := none }) rfl (fun K hK => ?_) ?_
            · skip
              go_simp
              refine hK.out _ _ ?_ (fun hHeld => ?_)
              · trivial
              clear hK K
              try simp only [Act.put, List.setIfInBounds_toArray, List.set_cons_zero, List.set_cons_succ]
              refine wpAnyH_ready (rs := [7]) (by kernel_rfl) (by simp) ?_
              refine AllReadyH.cons (o := { dst := some 73, op := Op.buildSlice 163 1 #[(0, Operand.tmp 72)], type := 163, pos := "ref.go:25", after := #[{ on := 6, ground := Ground.data }], guard := none }) rfl (fun K hK => ?_) AllReadyH.nil
              go_simp
              refine hK.out _ _ ?_ (fun hHeld => ?_)
              · trivial
              clear hK K
              try simp only [Act.put, List.setIfInBounds_toArray, List.set_cons_zero, List.set_cons_succ]
              refine wpAnyH_ready (rs := [8]) (by kernel_rfl) (by simp) ?_
              refine AllReadyH.cons (o := { dst := some 74, op := Op.call { callee := Callee.builtin Builtin.append, args := #[Operand.tmp 70, Operand.tmp 73], argTypes := #[163, 163] }, type := 163, pos := "ref.go:25", after := #[{ on := 4, ground := Ground.data }, { on := 7, ground := Ground.data }], guard := none }) rfl (fun K hK => ?_) AllReadyH.nil
              have hB1 : Below wr.heap.size wr (((wr.alloc (.cells (madeCells #[.bool false] m) 4)).alloc (.cells #[.slice (some ⟨wr.heap.size, 0, none⟩) m m] 166)).drew) := ((((Below.refl _ wr).alloc (Nat.le_refl _) _).alloc (by simp) _)).drew
              have hM1 := hM'.out.over hB1
              have hr1 : (((wr.alloc (.cells (madeCells #[.bool false] m) 4)).alloc (.cells #[.slice (some ⟨wr.heap.size, 0, none⟩) m m] 166)).drew).ownsRow w.heap.size 4 1 (.slice (some ⟨wr.heap.size, 0, none⟩) m m) m (bools m fun _ => false) := made_bools hm hM'.out.bl.size ((Below.heap_alloc _ _ _ (by simp)).trans (World.alloc_heap_new wr _))
              refine step_append_lies _ rfl _ _ 163 rfl w.heap.size 166 i1 (.slice none 0 0) 1 24 Tryz.underlying163 hi1 hz1 hs1 hb1 rfl (by decide) ov c (outs m c gr) rfl hM1.outer ⟨wr.heap.size + 1, 0, none⟩ 1 1 [.slice (some ⟨wr.heap.size, 0, none⟩) m m] rfl rfl (World.news_of_block (cs := #[.slice (some ⟨wr.heap.size, 0, none⟩) m m]) (al2 wr _ _)) (by simp [Value.oneCell']) (by decide) (by unfold maxLen; omega) (by omega) (by have := hM'.out.bl.size; simp; omega) _ rfl ?_
              intro g3 cap3 w3 hown3 hgrow3 hat3 hlt3
              have hMe := hM'.out.push hB1 hr1 (Nat.le_refl _) hown3 hgrow3
              have hne3 : ov.ownBlock ≠ some w.heap.size := (fun e => by obtain ⟨_, cur', hc'⟩ := own_blk hM1.outer e; rw [hM1.ob] at hc'; simp at hc')
              have hob3 := (hgrow3.block w.heap.size hM1.lt (fun e => hne3 e.symm)).trans hM1.ob
              have e3 : w3.cell? ⟨w.heap.size, 1, none⟩ = some ov := (by simp [World.cell?, hob3])
              have f3 : w3.frozen? ⟨w.heap.size, 1, none⟩ = false := (by simp [World.frozen?, hob3])
              refine hK.out _ _ ?_ (fun hHeld => ?_)
              · trivial
              clear hK K
              try simp only [Act.put, List.setIfInBounds_toArray, List.set_cons_zero, List.set_cons_succ]
              refine wpAnyH_take (i := 9) (oi := { dst := some 75, op := Op.nilCheck (Operand.tmp 66), type := 0, pos := "ref.go:25", after := #[{ on := 0, ground := Ground.data }, { on := 0, ground := Ground.phase }, { on := 1, ground := Ground.phase }, { on := 2, ground := Ground.phase }, { on := 3, ground := Ground.phase }, { on := 4, ground := Ground.phase }, { on := 5, ground := Ground.phase }, { on := 6, ground := Ground.phase }, { on := 7, ground := Ground.phase }, { on := 8, ground := Ground.phase }], guard := none }) (v := ?_) rfl (by kernel_rfl) (by kernel_rfl) (by kernel_rfl) (fun _ _ _ h => h) (Or.inl ⟨by rfl, ?_⟩) (by assumption) ?_
              rotate_left
              · intro w hSw; (try dsimp only at hSw); go_simp <;> with_reducible rfl
              simp only [Act.put, List.setIfInBounds_toArray, List.set_cons_zero, List.set_cons_succ]
              refine wpAnyH_take (i := 10) (oi := { dst := some 76, op := Op.fieldAddr 165 (Operand.tmp 75) 1, type := 0, pos := "ref.go:25", after := #[{ on := 9, ground := Ground.data }, { on := 0, ground := Ground.phase }, { on := 1, ground := Ground.phase }, { on := 2, ground := Ground.phase }, { on := 3, ground := Ground.phase }, { on := 4, ground := Ground.phase }, { on := 5, ground := Ground.phase }, { on := 6, ground := Ground.phase }, { on := 7, ground := Ground.phase }, { on := 8, ground := Ground.phase }], guard := none }) (v := ?_) rfl (by kernel_rfl) (by kernel_rfl) (by kernel_rfl) (fun _ _ _ h => h) (Or.inl ⟨by rfl, ?_⟩) (by assumption) ?_
              rotate_left
              · intro w hSw; (try dsimp only at hSw); go_simp <;> with_reducible rfl
              simp only [Act.put, List.setIfInBounds_toArray, List.set_cons_zero, List.set_cons_succ]
              refine wpAnyH_ready (rs := [11]) (by kernel_rfl) (by simp) ?_
              refine AllReadyH.cons (o := { dst := none, op := Op.store 163 (Operand.tmp 76) (Operand.tmp 74), type := 0, pos := "ref.go:25", after := #[{ on := 10, ground := Ground.data }, { on := 8, ground := Ground.data }, { on := 8, ground := Ground.chain }, { on := 0, ground := Ground.phase }, { on := 1, ground := Ground.phase }, { on := 2, ground := Ground.phase }, { on := 3, ground := Ground.phase }, { on := 4, ground := Ground.phase }, { on := 5, ground := Ground.phase }, { on := 6, ground := Ground.phase }, { on := 7, ground := Ground.phase }, { on := 8, ground := Ground.phase }], guard := none }) rfl (fun K hK => ?_) AllReadyH.nil
              go_simp
              refine hK.out _ _ ?_ (fun hHeld => ?_)
              · trivial
              clear hK K
              try simp only [Act.put, List.setIfInBounds_toArray, List.set_cons_zero, List.set_cons_succ]
              refine wpAnyH_done (by kernel_rfl) ?_ _
              skip
              go_wp2
              exact ⟨⟨c + 1, _, _, by omega, by go_num, hMe⟩, by simp [intOf]; omega⟩
            refine AllReadyH.cons (o := { dst := some 73, op := Op.buildSlice 163 1 #[(0, Operand.tmp 72)], type := 163, pos := "ref.go:25", after := #[{ on := 6, ground := Ground.data }], guard := none }) rfl (fun K hK => ?_) AllReadyH.nil
            go_simp
            refine hK.out _ _ ?_ (fun hHeld => ?_)
            · trivial
            clear hK K
            try simp only [Act.put, List.setIfInBounds_toArray, List.set_cons_zero, List.set_cons_succ]
            refine wpAnyH_ready (rs := [4]) (by kernel_rfl) (by simp) ?_
            refine AllReadyH.cons (o := { dst := some 70, op := Op.load 163 (Operand.tmp 69), type := 163, pos := "ref.go:25", after := #[{ on := 3, ground := Ground.data }], guard := none }) rfl (fun K hK => ?_) AllReadyH.nil
            go_simp
            refine hK.out _ _ ?_ (fun hHeld => ?_)
            · trivial
            clear hK K
            try simp only [Act.put, List.setIfInBounds_toArray, List.set_cons_zero, List.set_cons_succ]
            refine wpAnyH_ready (rs := [8]) (by kernel_rfl) (by simp) ?_
            refine AllReadyH.cons (o := { dst := some 74, op := Op.call { callee := Callee.builtin Builtin.append, args := #[Operand.tmp 70, Operand.tmp 73], argTypes := #[163, 163] }, type := 163, pos := "ref.go:25", after := #[{ on := 4, ground := Ground.data }, { on := 7, ground := Ground.data }], guard := none }) rfl (fun K hK => ?_) AllReadyH.nil
            have hB1 : Below wr.heap.size wr (((wr.alloc (.cells (madeCells #[.bool false] m) 4)).alloc (.cells #[.slice (some ⟨wr.heap.size, 0, none⟩) m m] 166)).drew) := ((((Below.refl _ wr).alloc (Nat.le_refl _) _).alloc (by simp) _)).drew
            have hM1 := hM'.out.over hB1
            have hr1 : (((wr.alloc (.cells (madeCells #[.bool false] m) 4)).alloc (.cells #[.slice (some ⟨wr.heap.size, 0, none⟩) m m] 166)).drew).ownsRow w.heap.size 4 1 (.slice (some ⟨wr.heap.size, 0, none⟩) m m) m (bools m fun _ => false) := made_bools hm hM'.out.bl.size ((Below.heap_alloc _ _ _ (by simp)).trans (World.alloc_heap_new wr _))
            refine step_append_lies _ rfl _ _ 163 rfl w.heap.size 166 i1 (.slice none 0 0) 1 24 Tryz.underlying163 hi1 hz1 hs1 hb1 rfl (by decide) ov c (outs m c gr) rfl hM1.outer ⟨wr.heap.size + 1, 0, none⟩ 1 1 [.slice (some ⟨wr.heap.size, 0, none⟩) m m] rfl rfl (World.news_of_block (cs := #[.slice (some ⟨wr.heap.size, 0, none⟩) m m]) (al2 wr _ _)) (by simp [Value.oneCell']) (by decide) (by unfold maxLen; omega) (by omega) (by have := hM'.out.bl.size; simp; omega) _ rfl ?_
            intro g3 cap3 w3 hown3 hgrow3 hat3 hlt3
            have hMe := hM'.out.push hB1 hr1 (Nat.le_refl _) hown3 hgrow3
            have hne3 : ov.ownBlock ≠ some w.heap.size := (fun e => by obtain ⟨_, cur', hc'⟩ := own_blk hM1.outer e; rw [hM1.ob] at hc'; simp at hc')
            have hob3 := (hgrow3.block w.heap.size hM1.lt (fun e => hne3 e.symm)).trans hM1.ob
            have e3 : w3.cell? ⟨w.heap.size, 1, none⟩ = some ov := (by simp [World.cell?, hob3])
            have f3 : w3.frozen? ⟨w.heap.size, 1, none⟩ = false := (by simp [World.frozen?, hob3])
            refine hK.out _ _ ?_ (fun hHeld => ?_)
            · trivial
            clear hK K
            try simp only [Act.put, List.setIfInBounds_toArray, List.set_cons_zero, List.set_cons_succ]
            refine wpAnyH_take (i := 9) (oi := { dst := some 75, op := Op.nilCheck (Operand.tmp 66), type := 0, pos := "ref.go:25", after := #[{ on := 0, ground := Ground.data }, { on := 0, ground := Ground.phase }, { on := 1, ground := Ground.phase }, { on := 2, ground := Ground.phase }, { on := 3, ground := Ground.phase }, { on := 4, ground := Ground.phase }, { on := 5, ground := Ground.phase }, { on := 6, ground := Ground.phase }, { on := 7, ground := Ground.phase }, { on := 8, ground := Ground.phase }], guard := none }) (v := ?_) rfl (by kernel_rfl) (by kernel_rfl) (by kernel_rfl) (fun _ _ _ h => h) (Or.inl ⟨by rfl, ?_⟩) (by assumption) ?_
            rotate_left
            · intro w hSw; (try dsimp only at hSw); go_simp <;> with_reducible rfl
            simp only [Act.put, List.setIfInBounds_toArray, List.set_cons_zero, List.set_cons_succ]
            refine wpAnyH_take (i := 10) (oi := { dst := some 76, op := Op.fieldAddr 165 (Operand.tmp 75) 1, type := 0, pos := "ref.go:25", after := #[{ on := 9, ground := Ground.data }, { on := 0, ground := Ground.phase }, { on := 1, ground := Ground.phase }, { on := 2, ground := Ground.phase }, { on := 3, ground := Ground.phase }, { on := 4, ground := Ground.phase }, { on := 5, ground := Ground.phase }, { on := 6, ground := Ground.phase }, { on := 7, ground := Ground.phase }, { on := 8, ground := Ground.phase }], guard := none }) (v := ?_) rfl (by kernel_rfl) (by kernel_rfl) (by kernel_rfl) (fun _ _ _ h => h) (Or.inl ⟨by rfl, ?_⟩) (by assumption) ?_
            rotate_left
            · intro w hSw; (try dsimp only at hSw); go_simp <;> with_reducible rfl
            simp only [Act.put, List.setIfInBounds_toArray, List.set_cons_zero, List.set_cons_succ]
            refine wpAnyH_ready (rs := [11]) (by kernel_rfl) (by simp) ?_
            refine AllReadyH.cons (o := { dst := none, op := Op.store 163 (Operand.tmp 76) (Operand.tmp 74), type := 0, pos := "ref.go:25", after := #[{ on := 10, ground := Ground.data }, { on := 8, ground := Ground.data }, { on := 8, ground := Ground.chain }, { on := 0, ground := Ground.phase }, { on := 1, ground := Ground.phase }, { on := 2, ground := Ground.phase }, { on := 3, ground := Ground.phase }, { on := 4, ground := Ground.phase }, { on := 5, ground := Ground.phase }, { on := 6, ground := Ground.phase }, { on := 7, ground := Ground.phase }, { on := 8, ground := Ground.phase }], guard := none }) rfl (fun K hK => ?_) AllReadyH.nil
            go_simp
            refine hK.out _ _ ?_ (fun hHeld => ?_)
            · trivial
            clear hK K
            try simp only [Act.put, List.setIfInBounds_toArray, List.set_cons_zero, List.set_cons_succ]
            refine wpAnyH_done (by kernel_rfl) ?_ _
            skip
            go_wp2
            exact ⟨⟨c + 1, _, _, by omega, by go_num, hMe⟩, by simp [intOf]; omega⟩
          · obtain rfl : c = m := by omega
            clear hlt
            go_wp2
            go_loopw [9] (fun p wr => ∃ d : Nat, d ≤ L.length ∧ p = .int .i64 d ∧ Mat w w.heap.size c c (relT L d) ov gr wr) (fun p _ => ((L.length : Int) - intOf p).toNat)
            case atStart => exact ⟨0, Nat.zero_le _, rfl, hM.congr fun i j _ _ => by simp [relT]⟩
            case round =>
              clear hM
              obtain ⟨d, hd, rfl, hM⟩ := hrel
              by_cases hlt : d < L.length
              · obtain ⟨q, hq⟩ : ∃ q, L[d]? = some q := ⟨_, List.getElem?_eq_getElem hlt⟩
                obtain ⟨g, o, rfl, c1', c2'⟩ := hcl'.out d q hq
                have hok := hgood.out q (List.mem_of_getElem? hq)
                obtain ⟨q1, q2⟩ := q
                obtain ⟨⟨k1, k2⟩, k3, k4⟩ := hok
                simp only [] at k1 k2 k3 k4 c1' c2'
                obtain ⟨a, rfl⟩ := Int.eq_ofNat_of_zero_le k1
                obtain ⟨b, rfl⟩ := Int.eq_ofNat_of_zero_le k3
                have ha : a < c := by omega
                have hb : b < c := by omega
                clear k1 k2 k3 k4
                obtain ⟨gt, capo, rfl⟩ := hM.shape (by omega)
                have s0 := hM.c1
                have s1 := cell_over c1' hM.bl
                have s2 := cell_over c2' hM.bl
                have s3 := hM.row rfl ha
                have hg := cell_lt c1'
                have hcap1 := hcap.1
                obtain ⟨n1, n2, n3⟩ := hM.far ha
                have hset : Hid (∀ V, Mat w w.heap.size c c (relT L d) (.slice (some ⟨gt, 0, none⟩) c capo) gr V → Mat w w.heap.size c c (relT L (d + 1)) (.slice (some ⟨gt, 0, none⟩) c capo) gr (V.setCell ⟨gr a, b, none⟩ (.bool true))) := fun V hV =>
                  hV.set ha (by rw [relT_snoc hq]; simp) fun i j _ _ hne => by rw [relT_snoc hq]; simp [hne]
                have e1 := hM.at ha hb
                have f1 := hM.frz ha b
                have hM' := hide' hM
                clear hM hq c1' c2' hgood
                generalize gr a = ga at *
                go_wp2
                have hi0 : Hid (wr.drew.cell? ⟨w.heap.size, 1, none⟩ = some (.slice (some ⟨gt, 0, none⟩) c capo) ∧ wr.drew.cell? ⟨g, o + d * 2, none⟩ = some (.int .i64 (a : Int)) ∧ wr.drew.cell? ⟨g, o + d * 2 + 1, none⟩ = some (.int .i64 (b : Int)) ∧ wr.drew.cell? ⟨gt, a, none⟩ = some (.slice (some ⟨ga, 0, none⟩) c c)) := ⟨s0, s1, s2, s3⟩
                go_region_held3 (fun V => V.cell? ⟨w.heap.size, 1, none⟩ = some (.slice (some ⟨gt, 0, none⟩) c capo) ∧ V.cell? ⟨g, o + d * 2, none⟩ = some (.int .i64 (a : Int)) ∧ V.cell? ⟨g, o + d * 2 + 1, none⟩ = some (.int .i64 (b : Int)) ∧ V.cell? ⟨gt, a, none⟩ = some (.slice (some ⟨ga, 0, none⟩) c c)) (first | (exact hi0.out) | (exact ⟨far_cell s0 n1, far_cell s1 (by omega), far_cell s2 (by omega), far_cell s3 n2⟩)) (fail)
                go_wp2
                exact ⟨⟨d + 1, by omega, by go_num, hset.out _ (hM'.out.over (Below.refl _ _).drew)⟩, by simp [intOf]; omega⟩
              · obtain rfl : d = L.length := by omega
                clear hlt
                go_wp2
                go_loopw [10] (fun p wr => ∃ k : Nat, k ≤ c ∧ p = .int .i64 k ∧ Mat w w.heap.size c c (clo k (relL L)) ov gr wr) (fun p _ => ((c : Int) - intOf p).toNat)
                case atStart => exact ⟨0, Nat.zero_le _, rfl, hM.congr fun i j _ _ => relT_all L i j⟩
                case round =>
                  clear hM
                  obtain ⟨k, hk, rfl, hM⟩ := hrel
                  by_cases hlt : k < c
                  · have hcl2 : Hid (turn k (clo k (relL L)) = clo (k + 1) (relL L)) := rfl
                    generalize clo k (relL L) = R at *
                    go_wp2
                    go_loopw [11] (fun p wr => ∃ a : Nat, a ≤ c ∧ p = .int .i64 a ∧ Mat w w.heap.size c c (tmid k a 0 R) ov gr wr) (fun p _ => ((c : Int) - intOf p).toNat)
                    case atStart => exact ⟨0, Nat.zero_le _, rfl, hM.congr fun i j _ _ => tmid_start.symm⟩
                    case round =>
                      clear hM
                      obtain ⟨a, ha, rfl, hM⟩ := hrel
                      by_cases hla : a < c
                      · go_wp2
                        go_loopw [12] (fun p wr => ∃ b : Nat, b ≤ c ∧ p = .int .i64 b ∧ Mat w w.heap.size c c (tmid k a b R) ov gr wr) (fun p _ => ((c : Int) - intOf p).toNat)
                        case atStart => exact ⟨0, Nat.zero_le _, rfl, hM⟩
                        case round =>
                          clear hM
                          obtain ⟨b, hb, rfl, hM⟩ := hrel
                          by_cases hlb : b < c
                          · obtain ⟨gt, capo, rfl⟩ := hM.shape (by omega)
                            have s0 := hM.c1
                            have s1 := hM.row rfl hla
                            have s2 := hM.row rfl hlt
                            have s3 := hM.at hla hlt
                            rw [tmid_col] at s3
                            have s4 := hM.at hlt hlb
                            rw [tmid_row] at s4
                            have s5 := hM.at hla hlb
                            have f5 := hM.frz hla b
                            have hnow := hide' (tmid_here k a b R)
                            have hM' := hide' hM
                            clear hM
                            by_cases h1 : R a k = true
                            · rw [h1] at s3
                              by_cases h2 : R k b = true
                              · rw [h2] at s4
                                have hset := hide' (hM'.out.set (M' := tmid k a (b + 1) R) hla (by rw [hnow.out, h1, h2]; simp) fun i j _ _ hne => tmid_other hne)
                                clear h1 h2 hnow
                                generalize gr a = ga at *
                                generalize gr k = gk at *
                                go_wp2
                                exact ⟨⟨b + 1, by omega, by go_num, hset.out⟩, by simp [intOf]; omega⟩
                              · have h2' : R k b = false := by simpa using h2
                                rw [h2'] at s4
                                have hset := hide' (hM'.out.congr (M' := tmid k a (b + 1) R) fun i j _ _ => by
                                  by_cases e : i = a ∧ j = b
                                  · obtain ⟨rfl, rfl⟩ := e; rw [hnow.out, h2', tmid_now]; simp
                                  · exact tmid_other e)
                                clear h1 h2 h2' hnow
                                generalize gr a = ga at *
                                generalize gr k = gk at *
                                go_wp2
                                exact ⟨⟨b + 1, by omega, by go_num, hset.out⟩, by simp [intOf]; omega⟩
                            · have h1' : R a k = false := by simpa using h1
                              rw [h1'] at s3
                              have hset := hide' (hM'.out.congr (M' := tmid k a (b + 1) R) fun i j _ _ => by
                                by_cases e : i = a ∧ j = b
                                · obtain ⟨rfl, rfl⟩ := e; rw [hnow.out, h1', tmid_now]; simp
                                · exact tmid_other e)
                              clear h1 h1' hnow s4 s2
                              generalize gr a = ga at *
                              go_wp2
                              exact ⟨⟨b + 1, by omega, by go_num, hset.out⟩, by simp [intOf]; omega⟩
                          · obtain rfl : b = c := by omega
                            go_wp2
                            exact ⟨⟨a + 1, by omega, by go_num, hM.congr fun i j _ hj => tmid_rowend hj⟩, by simp [intOf]; omega⟩
                      · obtain rfl : a = c := by omega
                        go_wp2
                        exact ⟨⟨k + 1, by omega, by go_num, hM.congr fun i j hi _ => by rw [tmid_end hi, hcl2.out]⟩, by simp [intOf]; omega⟩
                  · obtain rfl : k = c := by omega
                    clear hlt
                    go_wp2
                    go_loopw [13] (fun p wr => ∃ a : Nat, a ≤ k ∧ p = .int .i64 a ∧ Hid (∀ i, i < a → ordL k L i i = false) ∧ Mat w w.heap.size k k (ordL k L) ov gr wr) (fun p _ => ((k : Int) - intOf p).toNat)
                    case atStart => exact ⟨0, Nat.zero_le _, rfl, fun i hi => by omega, hM⟩
                    case round =>
                      clear hM
                      obtain ⟨a, ha, rfl, hnc, hM⟩ := hrel
                      by_cases hla : a < k
                      · obtain ⟨gt, capo, rfl⟩ := hM.shape (by omega)
                        have s0 := hM.c1
                        have s1 := hM.row rfl hla
                        have s2 := hM.at hla hla
                        have hM' := hide' hM
                        have hgd : Hid (goodP k L) := ⟨hn, hgood.out⟩
                        clear hM
                        by_cases h1 : ordL k L a a = true
                        · rw [h1] at s2
                          have hcy : Hid (cycL k L) := ⟨a, hla, h1⟩
                          clear h1 hnc
                          generalize gr a = ga at *
                          go_wp2
                          go_ret2
                          exact ⟨hM'.out.bl, .inr (.inl ⟨hgd.out, hcy.out, rfl⟩)⟩
                        · have h1' : ordL k L a a = false := by simpa using h1
                          rw [h1'] at s2
                          have hnc2 : Hid (∀ i, i < a + 1 → ordL k L i i = false) := fun i hi => by
                            by_cases e : i = a
                            · subst e; exact h1'
                            · exact hnc.out i (by omega)
                          clear h1 h1' hnc
                          generalize gr a = ga at *
                          go_wp2
                          exact ⟨⟨a + 1, by omega, by go_num, hnc2, hM'.out⟩, by simp [intOf]; omega⟩
                      · obtain rfl : a = k := by omega
                        have hgd : Hid (goodP a L) := ⟨hn, hgood.out⟩
                        have hncy : Hid (¬ cycL a L) := fun ⟨i, hi, h⟩ => by rw [hnc.out i hi] at h; cases h
                        clear hnc hla
                        go_wp2
                        go_ret2
                        exact ⟨hM.bl, .inr (.inr ⟨hgd.out, hncy.out, _, _, _, rfl, hM⟩)⟩
  · have hbad : Hid (¬ goodP n L) := fun h => hn h.1
    by_cases h0 : n < 0
    · go_wp2
      go_ret2
      exact ⟨Below.refl _ _, .inl ⟨hbad.out, rfl⟩⟩
    · have h1 : 64 < n := by omega
      go_wp2
      go_ret2
      exact ⟨Below.refl _ _, .inl ⟨hbad.out, rfl⟩⟩
end Go.Proofs.YtahfobbiaimoiaaGreatDoor.O
