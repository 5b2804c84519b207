/- slices.Clone of a row of entries: the same pointers in new memory. -/
import Derived.Test.YtmjdecgijnodhaaGDue
import Derived.Maps.AppendAt
namespace Go.Proofs.Ytmjdecgijnodhaa
open Go.RowKit
theorem owns_zeroE (w : World) : (w.alloc (.cells #[] 57)).ownsRow w.heap.size 57 1 (.slice (some ⟨w.heap.size, 0, none⟩) 0 0) 0 [] :=
  ⟨rfl, .inr ⟨_, 0, #[], rfl, Nat.le_refl _, heap_newG w _, Nat.le_refl _, by unfold maxLen; omega, rfl, rfl⟩⟩
theorem one_ptrs (h : Nat → Nat × Ent) (n : Nat) : ∀ u ∈ ptrs h n, u.oneCell' = true := fun u hu => by
  unfold ptrs at hu
  obtain ⟨k, _, rfl⟩ := List.mem_map.1 hu
  rfl
theorem wp_copyP {o : Oper} {a : Act} {K : Act → World → Prop} {Q : Exit → Act → World → Prop} (W : World) (s x : Operand) (H g n cap : Nat) (h : Nat → Nat × Ent)
    (ho : o.op = .call { callee := .builtin .append, args := #[s, x], argTypes := #[55, 55] }) (hs : a.eval s = .slice (some ⟨H, 0, none⟩) 0 0)
    (hH : W.ownsRow H 57 1 (.slice (some ⟨H, 0, none⟩) 0 0) 0 []) (hx : a.eval x = .slice (some ⟨g, 0, none⟩) n cap) (hv : ∀ j, j < n → W.cell? ⟨g, j, none⟩ = some (.pointer (some ⟨(h j).1, 0, none⟩))) (hl : n ≤ 1000000)
    (hk : ∀ u w', w'.ownsRow H 57 1 u n (ptrs h n) → W.grownBy w' (some H) → K (a.put o.dst u) w') : o.wp Try.prog a W K Q := by
  obtain ⟨i0, hi, hz0, hz1, hz2⟩ := info_parts infoP
  have hHs : H ≤ W.heap.size := Nat.le_of_lt (hH.lt H rfl).2
  have hnews : ∀ j u, (ptrs h n)[j]? = some u → W.cell? ((⟨g, 0, none⟩ : Addr).add j) = some u := fun j u hu => by
    have hj : j < n := by have := (List.getElem?_eq_some_iff.1 hu).1; rwa [ptrs_len] at this
    rw [ptrs_at h hj] at hu
    cases hu
    rw [Addr.add_lit, Nat.zero_add]; exact hv j hj
  obtain ⟨v', w', hr, h2, h3, _, _⟩ := run_append_own_at (P := Try.prog) W H 55 o.type 57 i0 (.pointer none) 1 8 Try.underlying55 hi hz0 hz1 hz2 rfl (by decide) _ 0 [] hH ⟨g, 0, none⟩ n cap (ptrs h n) (by rw [ptrs_len]; omega) hnews (one_ptrs h n) (by unfold maxLen; omega) (by omega) hHs
  unfold Oper.wp
  simp only [execOp, ho, resolve, invoke, builtin, hs, hx, Sem.run_bind, Sem.run_pure, Result.andThen_ok, List.map_toArray, List.map_cons, List.map_nil, hr]
  rw [Nat.zero_add] at h2
  exact hk _ _ h2 h3
theorem wpList_copyP {ops : Array Oper} {rest : List Oper} {o : Oper} {a : Act} {Q : Exit → Act → World → Prop} (W : World) (hgd : o.guard = none) (s x : Operand) (H g n cap : Nat) (h : Nat → Nat × Ent)
    (ho : o.op = .call { callee := .builtin .append, args := #[s, x], argTypes := #[55, 55] }) (hs : a.eval s = .slice (some ⟨H, 0, none⟩) 0 0)
    (hH : W.ownsRow H 57 1 (.slice (some ⟨H, 0, none⟩) 0 0) 0 []) (hx : a.eval x = .slice (some ⟨g, 0, none⟩) n cap) (hv : ∀ j, j < n → W.cell? ⟨g, j, none⟩ = some (.pointer (some ⟨(h j).1, 0, none⟩))) (hl : n ≤ 1000000)
    (hk : ∀ u w', w'.ownsRow H 57 1 u n (ptrs h n) → W.grownBy w' (some H) → wpList Try.prog ops Q rest (a.put o.dst u) w') : wpList Try.prog ops Q (o :: rest) a W :=
  wpList_plain hgd fun _ hK => wp_copyP W s x H g n cap h ho hs hH hx hv hl fun u w' h1 h2 => hK _ _ (hk u w' h1 h2)
theorem eqNil (w : World) : (binOp .eql 55 (.slice none 0 0) (.slice none 0 0)).run Try.prog w = .ok (.bool true) w := by kernel_rfl
theorem eqSome (g n cap : Nat) (w : World) : (binOp .eql 55 (.slice (some ⟨g, 0, none⟩) n cap) (.slice none 0 0)).run Try.prog w = .ok (.bool false) w := by kernel_rfl
set_option maxRecDepth 100000 in
set_option maxHeartbeats 1000000 in
theorem cloneE (W : World) (rowv : Value) (n : Nat) (h : Nat → Nat × Ent) (H : W.ownsRow 0 57 1 rowv n (ptrs h n)) (hl : n ≤ 1000000) :
    Calls Try.prog 22 #[rowv] W fun e w' => ∃ v, e = .returned v ∧ w'.ownsRow W.heap.size 57 1 v n (ptrs h n) ∧ Below W.heap.size W w' := by
  have q1 := eqNil
  have q2 := eqSome
  rcases H.2 with ⟨rfl, rfl⟩ | ⟨g, cap, cur, rfl, _⟩
  · go_enter Try.func22, Try.ntmps22
    go_wp2
    go_ret
    exact ⟨_, rfl, World.ownsRow_nil _ _ _ _, Below.refl _ _⟩
  · have hv : Hid (∀ j, j < n → (W.alloc (.cells #[] 57)).cell? ⟨g, j, none⟩ = some (.pointer (some ⟨(h j).1, 0, none⟩))) := fun j hj => by
      have := H.cellAt j (by omega)
      rw [ptrs_at h hj] at this
      exact cell_over this ((Below.refl _ W).alloc (Nat.le_refl _) _)
    have hB := hide' ((Below.refl _ W).alloc (Nat.le_refl _) (.cells #[] 57))
    have hZ : Hid ((W.alloc (.cells #[] 57)).ownsRow W.heap.size 57 1 (.slice (some ⟨W.heap.size, 0, none⟩) 0 0) 0 []) := owns_zeroE W
    clear H
    go_enter Try.func22, Try.ntmps22
    go_wp2_with (refine wpList_copyP _ rfl (.tmp 5) (.tmp 6) W.heap.size g n cap h rfl rfl hZ.out rfl hv.out hl ?_; intro u w4 hu4 hg4; have hu4' := hide' hu4; have hg4' := hide' (hB.out.grown hg4 (by simp) (fun j ej => by cases ej; exact Nat.le_refl _)); clear hu4 hg4)
    go_ret
    exact ⟨_, rfl, hu4'.out, hg4'.out⟩
end Go.Proofs.Ytmjdecgijnodhaa
