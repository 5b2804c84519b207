/- setAgainst, Foes, Clash: what they answer. -/
import Derived.Test.YtdiplbkgglgnfaaRSets
namespace Go.Proofs.Ytdiplbkgglgnfaa
open Go.RowKit
/-- A row of words of one's own, and what is left as it was. -/
structure Ag (n0 : Nat) (w wr : World) (g1 m : Nat) (A : Nat → Nat) : Prop where
  own : wr.ownsRow n0 62 1 (.slice (some ⟨g1, 0, none⟩) m m) m (cellsW A m)
  bl : Below n0 w wr
  fr : ∀ k, k ≠ g1 → k < w.heap.size → wr.heap[k]? = w.heap[k]?
theorem Ag.ge {n0 : Nat} {w wr : World} {g1 m : Nat} {A : Nat → Nat} (h : Ag n0 w wr g1 m A) : n0 ≤ g1 := own_ge' h.own rfl
theorem Ag.lt {n0 : Nat} {w wr : World} {g1 m : Nat} {A : Nat → Nat} (h : Ag n0 w wr g1 m A) : g1 < wr.heap.size := own_lt' h.own rfl
theorem Ag.over {n0 : Nat} {w wr w3 : World} {g1 m : Nat} {A : Nat → Nat} (h : Ag n0 w wr g1 m A) (hb : Below wr.heap.size wr w3) : Ag n0 w w3 g1 m A :=
  ⟨own_below h.own hb (Nat.le_refl _), h.bl.trans (hb.mono (Nat.le_trans h.ge (Nat.le_of_lt h.lt))), fun k h1 h2 => (hb.block k (Nat.lt_of_lt_of_le h2 h.bl.size)).trans (h.fr k h1 h2)⟩
theorem Ag.set {n0 : Nat} {w wr : World} {g1 m : Nat} {A : Nat → Nat} (h : Ag n0 w wr g1 m A) (a q : Nat) : Ag n0 w (wr.setCell ⟨g1, a, none⟩ (.int .u64 (q : Int))) g1 m (fun b => if b = a then q else A b) := by
  refine ⟨?_, h.bl.setCell h.ge _, fun k h1 h2 => (heap_setCell_other wr _ k _ h1).trans (h.fr k h1 h2)⟩
  have h4 := (h.own.stored a (.int .u64 (q : Int))).1
  rw [cellsW_set] at h4
  exact h4
theorem Ag.cell {n0 : Nat} {w wr : World} {g1 m : Nat} {A : Nat → Nat} (h : Ag n0 w wr g1 m A) {g k : Nat} {v : Value} (hg : g ≠ g1) (hc : w.cell? ⟨g, k, none⟩ = some v) : wr.cell? ⟨g, k, none⟩ = some v := by
  have := h.fr g hg (cell_lt hc)
  rw [World.cell?] at hc ⊢
  rw [this]; exact hc
theorem agJ_upd (W : Nat → Nat) (o : List Nat) (i : Nat) (A : Nat → Nat) (j : Nat) (h : j ≠ i) : (fun b => if b = o.getD i 0 then agJ W o i A j (o.getD i 0) ||| W (o.getD j 0) else agJ W o i A j b) = agJ W o i A (j + 1) := by
  funext b
  rw [agJ, if_neg h]
  by_cases e : b = o.getD i 0
  · rw [if_pos e, if_pos e, e]
  · rw [if_neg e, if_neg e]
theorem agJ_skip (W : Nat → Nat) (o : List Nat) (i : Nat) (A : Nat → Nat) : agJ W o i A (i + 1) = agJ W o i A i := by
  funext b
  rw [agJ, if_pos rfl]
set_option maxRecDepth 100000 in
set_option maxHeartbeats 4000000 in
theorem setAgainstF (n0 g1 g2 g3 m p : Nat) (A W : Nat → Nat) (O : List Nat) (w : World) (hown : w.ownsRow n0 62 1 (.slice (some ⟨g1, 0, none⟩) m m) m (cellsW A m)) (hblk : ∀ b, b < m → w.cell? ⟨g2, b, none⟩ = some (.int .u64 ((W b : Nat) : Int))) (hof : RowI w (.slice (some ⟨g3, 0, none⟩) O.length O.length) (ints O)) (h12 : g2 ≠ g1) (h13 : g3 ≠ g1) (hO : ∀ b ∈ O, b < m) (hl : O.length ≤ 1000) (hp : p ≤ 25) (hA : ∀ b, A b < 2 ^ p) (hW : ∀ b, W b < 2 ^ p) :
    Calls Try.prog 22 #[.slice (some ⟨g1, 0, none⟩) m m, .slice (some ⟨g2, 0, none⟩) m m, .slice (some ⟨g3, 0, none⟩) O.length O.length] w fun e w' => e = .returned (.tuple #[]) ∧ Hid (Ag n0 w w' g1 m (agI W O A O.length)) := by
  have hp25 := pow_le12 hp
  have hcO : Hid (∀ i x : Nat, O[i]? = some x → w.cell? ⟨g3, i, none⟩ = some (.int .i64 (x : Int))) := by
    obtain ⟨_, _, e, _, hc⟩ := hof
    rw [ints_len] at e
    cases e
    intro i x hx
    obtain ⟨g, o, e, h⟩ := hc i x (ints_at hx)
    cases e
    rwa [Nat.zero_add] at h
  have hblk' := hide' hblk
  have hO' := hide' hO
  have hWl : Hid (∀ b, W b < 18446744073709551616) := fun b => by have := hW b; omega
  have hAl : Hid (∀ i j b, agJ W O i (agI W O A i) j b < 18446744073709551616) := fun i j b => by
    have := agJ_lt (W := W) (o := O) (i := i) (A := agI W O A i) hW (fun b => agI_lt hW hA i b) j b
    omega
  have hG0 : Hid (Ag n0 w w g1 m (agI W O A 0)) := ⟨hown, Below.refl _ _, fun _ _ _ => rfl⟩
  clear hown hblk hof hO hA hW hp hp25
  go_enter Try.func22, Try.ntmps22
  go_wp2
  go_loopw [6, 7, 8, 9, 12, 19] (fun _ _ _ _ k _ wr => ∃ i : Nat, i ≤ O.length ∧ k = .int .i64 i ∧ Hid (Ag n0 w wr g1 m (agI W O A i))) (fun _ _ _ _ k _ _ => ((O.length : Int) - intOf k).toNat)
  case atStart => exact ⟨0, Nat.zero_le _, rfl, hG0⟩
  case round =>
    clear hG0
    obtain ⟨i, hil, rfl, hG⟩ := hrel
    by_cases hlt : i < O.length
    · obtain ⟨a, ha⟩ : ∃ x, O[i]? = some x := ⟨_, List.getElem?_eq_getElem hlt⟩
      have ham := hO'.out a (List.mem_of_getElem? ha)
      have hga : Hid (O.getD i 0 = a) := by show _ = _; rw [List.getD_eq_getElem?_getD, ha]; rfl
      have ca := hG.out.cell h13 (hcO.out i a ha)
      have hG1 : Hid (Ag n0 w wr g1 m (agJ W O i (agI W O A i) 0)) := hG
      clear ha hG
      go_wp2
      clear ca
      go_loopw [8, 9, 19] (fun _ _ k wr => ∃ j : Nat, j ≤ O.length ∧ k = .int .i64 j ∧ Hid (Ag n0 w wr g1 m (agJ W O i (agI W O A i) j))) (fun _ _ k _ => ((O.length : Int) - intOf k).toNat)
      case atStart => exact ⟨0, Nat.zero_le _, rfl, hG1⟩
      case round =>
        clear hG1
        obtain ⟨j, hjl, rfl, hG⟩ := hrel
        by_cases hjlt : j < O.length
        · obtain ⟨b, hb⟩ : ∃ x, O[j]? = some x := ⟨_, List.getElem?_eq_getElem hjlt⟩
          have hbm := hO'.out b (List.mem_of_getElem? hb)
          have cb := hG.out.cell h13 (hcO.out j b hb)
          by_cases hij : j = i
          · subst hij
            have hG' : Hid (Ag n0 w wr g1 m (agJ W O j (agI W O A j) (j + 1))) := by rw [agJ_skip]; exact hG
            clear hcO hblk' hO' hWl hAl hga hb hG
            go_wp2
            exact ⟨⟨j + 1, by omega, by go_num, hG'⟩, by simp [intOf]; omega⟩
          · have hne : ((i : Int) != (j : Int)) = true := by simp; omega
            have hgb : O.getD j 0 = b := by rw [List.getD_eq_getElem?_getD, hb]; rfl
            have hE := hide' (agJ_upd W O i (agI W O A i) j hij)
            rw [hga.out, hgb] at hE
            have cu1 : wr.drew.cell? ⟨g1, a, none⟩ = some (.int .u64 ((agJ W O i (agI W O A i) j a : Nat) : Int)) := by
              show wr.cell? _ = _
              rw [hG.out.own.cellAt a (by omega)]; exact cellsW_at _ ham
            have cu2 : wr.drew.cell? ⟨g2, b, none⟩ = some (.int .u64 ((W b : Nat) : Int)) := hG.out.cell h12 (hblk'.out b hbm)
            have hlt1 : g1 < wr.drew.heap.size := hG.out.lt
            have hG' : Hid (Ag n0 w wr.drew g1 m (agJ W O i (agI W O A i) j)) := hG.out.over (Below.refl _ _).drew
            have KO := hide' fun V => or64 (agJ W O i (agI W O A i) j a) (W b) (hAl.out i j a) (hWl.out b) V
            have ham' : (a : Int) < (m : Int) := by omega
            have hbm' : (b : Int) < (m : Int) := by omega
            clear hcO hblk' hO' hWl hAl hga hgb hb hG hij
            have hG := hG'
            clear hG'
            generalize agJ W O i (agI W O A i) j a = x at *
            generalize W b = y at *
            go_wp2_with fail
            refine wp_region_noPanic (wp_region_held_drew (S := (fun _ => True)) (by kernel_rfl) ?_ (fun hHeld => ?_))
            · trivial
            refine wpAnyH_take (i := 0) (oi := { dst := some 27, op := Op.move (Operand.tmp 0), type := 58, pos := "ties.go:103", after := #[], guard := none }) (v := ?_) rfl (by kernel_rfl) (by kernel_rfl) (by kernel_rfl) (fun _ _ _ h => h) (Or.inl ⟨by rfl, ?_⟩) (by assumption) ?_
            rotate_left
            · intro w hSw; (try dsimp only at hSw); go_simp <;> with_reducible rfl
            simp only [Act.put, List.setIfInBounds_toArray, List.set_cons_zero, List.set_cons_succ]
            refine wpAnyH_take (i := 1) (oi := { dst := some 28, op := Op.move (Operand.tmp 7), type := 3, pos := "ties.go:103", after := #[], guard := none }) (v := ?_) rfl (by kernel_rfl) (by kernel_rfl) (by kernel_rfl) (fun _ _ _ h => h) (Or.inl ⟨by rfl, ?_⟩) (by assumption) ?_
            rotate_left
            · intro w hSw; (try dsimp only at hSw); go_simp <;> with_reducible rfl
            simp only [Act.put, List.setIfInBounds_toArray, List.set_cons_zero, List.set_cons_succ]
            refine wpAnyH_take (i := 2) (oi := { dst := some 29, op := Op.move (Operand.tmp 0), type := 58, pos := "ties.go:103", after := #[], guard := none }) (v := ?_) rfl (by kernel_rfl) (by kernel_rfl) (by kernel_rfl) (fun _ _ _ h => h) (Or.inl ⟨by rfl, ?_⟩) (by assumption) ?_
            rotate_left
            · intro w hSw; (try dsimp only at hSw); go_simp <;> with_reducible rfl
            simp only [Act.put, List.setIfInBounds_toArray, List.set_cons_zero, List.set_cons_succ]
            refine wpAnyH_take (i := 3) (oi := { dst := some 30, op := Op.move (Operand.tmp 7), type := 3, pos := "ties.go:103", after := #[], guard := none }) (v := ?_) rfl (by kernel_rfl) (by kernel_rfl) (by kernel_rfl) (fun _ _ _ h => h) (Or.inl ⟨by rfl, ?_⟩) (by assumption) ?_
            rotate_left
            · intro w hSw; (try dsimp only at hSw); go_simp <;> with_reducible rfl
            simp only [Act.put, List.setIfInBounds_toArray, List.set_cons_zero, List.set_cons_succ]
            refine wpAnyH_take (i := 4) (oi := { dst := some 31, op := Op.indexAddr 58 (Operand.tmp 29) (Operand.tmp 30), type := 0, pos := "ties.go:103", after := #[{ on := 2, ground := Ground.data }, { on := 3, ground := Ground.data }], guard := none }) (v := ?_) rfl (by kernel_rfl) (by kernel_rfl) (by kernel_rfl) (fun _ _ _ h => h) (Or.inl ⟨by rfl, ?_⟩) (by assumption) ?_
            rotate_left
            · intro w hSw; (try dsimp only at hSw); go_simp <;> with_reducible rfl
            simp only [Act.put, List.setIfInBounds_toArray, List.set_cons_zero, List.set_cons_succ]
            refine wpAnyH_take (i := 6) (oi := { dst := some 33, op := Op.move (Operand.tmp 1), type := 58, pos := "ties.go:103", after := #[], guard := none }) (v := ?_) rfl (by kernel_rfl) (by kernel_rfl) (by kernel_rfl) (fun _ _ _ h => h) (Or.inl ⟨by rfl, ?_⟩) (by assumption) ?_
            rotate_left
            · intro w hSw; (try dsimp only at hSw); go_simp <;> with_reducible rfl
            simp only [Act.put, List.setIfInBounds_toArray, List.set_cons_zero, List.set_cons_succ]
            refine wpAnyH_take (i := 7) (oi := { dst := some 34, op := Op.move (Operand.tmp 9), type := 3, pos := "ties.go:103", after := #[], guard := none }) (v := ?_) rfl (by kernel_rfl) (by kernel_rfl) (by kernel_rfl) (fun _ _ _ h => h) (Or.inl ⟨by rfl, ?_⟩) (by assumption) ?_
            rotate_left
            · intro w hSw; (try dsimp only at hSw); go_simp <;> with_reducible rfl
            simp only [Act.put, List.setIfInBounds_toArray, List.set_cons_zero, List.set_cons_succ]
            refine wpAnyH_take (i := 8) (oi := { dst := some 35, op := Op.indexAddr 58 (Operand.tmp 33) (Operand.tmp 34), type := 0, pos := "ties.go:103", after := #[{ on := 6, ground := Ground.data }, { on := 7, ground := Ground.data }], guard := none }) (v := ?_) rfl (by kernel_rfl) (by kernel_rfl) (by kernel_rfl) (fun _ _ _ h => h) (Or.inl ⟨by rfl, ?_⟩) (by assumption) ?_
            rotate_left
            · intro w hSw; (try dsimp only at hSw); go_simp <;> with_reducible rfl
            simp only [Act.put, List.setIfInBounds_toArray, List.set_cons_zero, List.set_cons_succ]
            refine wpAnyH_ready (rs := [5, 9]) (by kernel_rfl) (by simp) ?_
            refine AllReadyH.cons (o := { dst := some 32, op := Op.load 62 (Operand.tmp 31), type := 62, pos := "ties.go:103", after := #[{ on := 4, ground := Ground.data }], guard := none }) rfl (fun K hK => ?_) ?_
            · skip
              go_simp
              refine hK.out _ _ ?_ (fun hHeld => ?_)
              · trivial
              clear hK K
              try simp only [Act.put, List.setIfInBounds_toArray, List.set_cons_zero, List.set_cons_succ]
              refine wpAnyH_ready (rs := [9]) (by kernel_rfl) (by simp) ?_
              refine AllReadyH.cons (o := { dst := some 36, op := Op.load 62 (Operand.tmp 35), type := 62, pos := "ties.go:103", after := #[{ on := 8, ground := Ground.data }], guard := none }) rfl (fun K hK => ?_) AllReadyH.nil
              go_simp
              refine hK.out _ _ ?_ (fun hHeld => ?_)
              · trivial
              clear hK K
              try simp only [Act.put, List.setIfInBounds_toArray, List.set_cons_zero, List.set_cons_succ]
              refine wpAnyH_ready (rs := [10]) (by kernel_rfl) (by simp) ?_
              refine AllReadyH.cons (o := { dst := some 37, op := Op.call { callee := Callee.value (Operand.func 41), args := #[Operand.tmp 32, Operand.tmp 36], argTypes := #[62, 62] }, type := 62, pos := "ties.go:103", after := #[{ on := 5, ground := Ground.data }, { on := 9, ground := Ground.data }], guard := none }) rfl (fun K hK => ?_) AllReadyH.nil
              go_simp
              refine (KO.out wr.drew).mono ?_; rintro e w3 ⟨rfl, hb⟩; (try dsimp only); have hG3 := hide' (hG.out.over hb); have cu3 : w3.cell? ⟨g1, a, none⟩ = some (.int .u64 (x : Int)) := (hb.cell (p := ⟨g1, a, none⟩) hlt1).trans cu1; have fz3 := hG3.out.own.frozenAt a; clear hb
              refine hK.out _ _ ?_ (fun hHeld => ?_)
              · trivial
              clear hK K
              try simp only [Act.put, List.setIfInBounds_toArray, List.set_cons_zero, List.set_cons_succ]
              refine wpAnyH_take (i := 11) (oi := { dst := some 38, op := Op.indexAddr 58 (Operand.tmp 27) (Operand.tmp 28), type := 0, pos := "ties.go:103", after := #[{ on := 0, ground := Ground.data }, { on := 1, ground := Ground.data }, { on := 0, ground := Ground.phase }, { on := 1, ground := Ground.phase }, { on := 2, ground := Ground.phase }, { on := 3, ground := Ground.phase }, { on := 4, ground := Ground.phase }, { on := 5, ground := Ground.phase }, { on := 6, ground := Ground.phase }, { on := 7, ground := Ground.phase }, { on := 8, ground := Ground.phase }, { on := 9, ground := Ground.phase }, { on := 10, ground := Ground.phase }], guard := none }) (v := ?_) rfl (by kernel_rfl) (by kernel_rfl) (by kernel_rfl) (fun _ _ _ h => h) (Or.inl ⟨by rfl, ?_⟩) (by assumption) ?_
              rotate_left
              · intro w hSw; (try dsimp only at hSw); go_simp <;> with_reducible rfl
              simp only [Act.put, List.setIfInBounds_toArray, List.set_cons_zero, List.set_cons_succ]
              refine wpAnyH_ready (rs := [12]) (by kernel_rfl) (by simp) ?_
              refine AllReadyH.cons (o := { dst := none, op := Op.store 62 (Operand.tmp 38) (Operand.tmp 37), type := 0, pos := "ties.go:103", after := #[{ on := 11, ground := Ground.data }, { on := 10, ground := Ground.data }, { on := 10, ground := Ground.chain }, { on := 0, ground := Ground.phase }, { on := 1, ground := Ground.phase }, { on := 2, ground := Ground.phase }, { on := 3, ground := Ground.phase }, { on := 4, ground := Ground.phase }, { on := 5, ground := Ground.phase }, { on := 6, ground := Ground.phase }, { on := 7, ground := Ground.phase }, { on := 8, ground := Ground.phase }, { on := 9, ground := Ground.phase }, { on := 10, ground := Ground.phase }], guard := none }) rfl (fun K hK => ?_) AllReadyH.nil
              go_simp
              refine hK.out _ _ ?_ (fun hHeld => ?_)
              · trivial
              clear hK K
              try simp only [Act.put, List.setIfInBounds_toArray, List.set_cons_zero, List.set_cons_succ]
              refine wpAnyH_done (by kernel_rfl) ?_ _
              refine NoPanic.normal ?_
              clear cu1 cu2 cu3 fz3 KO hG
              go_wp2
              exact ⟨⟨j + 1, by omega, by go_num, hE.out ▸ hG3.out.set a (x ||| y)⟩, by simp [intOf]; omega⟩
            refine AllReadyH.cons (o := { dst := some 36, op := Op.load 62 (Operand.tmp 35), type := 62, pos := "ties.go:103", after := #[{ on := 8, ground := Ground.data }], guard := none }) rfl (fun K hK => ?_) AllReadyH.nil
            go_simp
            refine hK.out _ _ ?_ (fun hHeld => ?_)
            · trivial
            clear hK K
            try simp only [Act.put, List.setIfInBounds_toArray, List.set_cons_zero, List.set_cons_succ]
            refine wpAnyH_ready (rs := [5]) (by kernel_rfl) (by simp) ?_
            refine AllReadyH.cons (o := { dst := some 32, op := Op.load 62 (Operand.tmp 31), type := 62, pos := "ties.go:103", after := #[{ on := 4, ground := Ground.data }], guard := none }) rfl (fun K hK => ?_) AllReadyH.nil
            go_simp
            refine hK.out _ _ ?_ (fun hHeld => ?_)
            · trivial
            clear hK K
            try simp only [Act.put, List.setIfInBounds_toArray, List.set_cons_zero, List.set_cons_succ]
            refine wpAnyH_ready (rs := [10]) (by kernel_rfl) (by simp) ?_
            refine AllReadyH.cons (o := { dst := some 37, op := Op.call { callee := Callee.value (Operand.func 41), args := #[Operand.tmp 32, Operand.tmp 36], argTypes := #[62, 62] }, type := 62, pos := "ties.go:103", after := #[{ on := 5, ground := Ground.data }, { on := 9, ground := Ground.data }], guard := none }) rfl (fun K hK => ?_) AllReadyH.nil
            go_simp
            refine (KO.out wr.drew).mono ?_; rintro e w3 ⟨rfl, hb⟩; (try dsimp only); have hG3 := hide' (hG.out.over hb); have cu3 : w3.cell? ⟨g1, a, none⟩ = some (.int .u64 (x : Int)) := (hb.cell (p := ⟨g1, a, none⟩) hlt1).trans cu1; have fz3 := hG3.out.own.frozenAt a; clear hb
            refine hK.out _ _ ?_ (fun hHeld => ?_)
            · trivial
            clear hK K
            try simp only [Act.put, List.setIfInBounds_toArray, List.set_cons_zero, List.set_cons_succ]
            refine wpAnyH_take (i := 11) (oi := { dst := some 38, op := Op.indexAddr 58 (Operand.tmp 27) (Operand.tmp 28), type := 0, pos := "ties.go:103", after := #[{ on := 0, ground := Ground.data }, { on := 1, ground := Ground.data }, { on := 0, ground := Ground.phase }, { on := 1, ground := Ground.phase }, { on := 2, ground := Ground.phase }, { on := 3, ground := Ground.phase }, { on := 4, ground := Ground.phase }, { on := 5, ground := Ground.phase }, { on := 6, ground := Ground.phase }, { on := 7, ground := Ground.phase }, { on := 8, ground := Ground.phase }, { on := 9, ground := Ground.phase }, { on := 10, ground := Ground.phase }], guard := none }) (v := ?_) rfl (by kernel_rfl) (by kernel_rfl) (by kernel_rfl) (fun _ _ _ h => h) (Or.inl ⟨by rfl, ?_⟩) (by assumption) ?_
            rotate_left
            · intro w hSw; (try dsimp only at hSw); go_simp <;> with_reducible rfl
            simp only [Act.put, List.setIfInBounds_toArray, List.set_cons_zero, List.set_cons_succ]
            refine wpAnyH_ready (rs := [12]) (by kernel_rfl) (by simp) ?_
            refine AllReadyH.cons (o := { dst := none, op := Op.store 62 (Operand.tmp 38) (Operand.tmp 37), type := 0, pos := "ties.go:103", after := #[{ on := 11, ground := Ground.data }, { on := 10, ground := Ground.data }, { on := 10, ground := Ground.chain }, { on := 0, ground := Ground.phase }, { on := 1, ground := Ground.phase }, { on := 2, ground := Ground.phase }, { on := 3, ground := Ground.phase }, { on := 4, ground := Ground.phase }, { on := 5, ground := Ground.phase }, { on := 6, ground := Ground.phase }, { on := 7, ground := Ground.phase }, { on := 8, ground := Ground.phase }, { on := 9, ground := Ground.phase }, { on := 10, ground := Ground.phase }], guard := none }) rfl (fun K hK => ?_) AllReadyH.nil
            go_simp
            refine hK.out _ _ ?_ (fun hHeld => ?_)
            · trivial
            clear hK K
            try simp only [Act.put, List.setIfInBounds_toArray, List.set_cons_zero, List.set_cons_succ]
            refine wpAnyH_done (by kernel_rfl) ?_ _
            refine NoPanic.normal ?_
            clear cu1 cu2 cu3 fz3 KO hG
            go_wp2
            exact ⟨⟨j + 1, by omega, by go_num, hE.out ▸ hG3.out.set a (x ||| y)⟩, by simp [intOf]; omega⟩
        · obtain rfl : j = O.length := by omega
          have hG' : Hid (Ag n0 w wr g1 m (agI W O A (i + 1))) := hG
          clear hcO hblk' hO' hWl hAl hga hG
          go_wp2
          exact ⟨⟨i + 1, by omega, by go_num, hG'⟩, by simp [intOf]; omega⟩
    · obtain rfl : i = O.length := by omega
      clear hcO hblk' hO' hWl hAl
      go_wp2
      exact bodyPost_end (v := .tuple #[]) (by simp [results, Try.results22, go_sem]) rfl ⟨rfl, hG⟩
end Go.Proofs.Ytdiplbkgglgnfaa
