/- AuditOut: what its walk needs. -/
import Derived.Test.YtahfobbiaimoiaaGreatDoorJ32
import Derived.Test.YtahfobbiaimoiaaGreatDoorJ41
import Derived.OpenShut
namespace Go.Proofs.YtahfobbiaimoiaaGreatDoor
open Go.RowKit
set_option maxRecDepth 100000 in
set_option maxHeartbeats 1000000 in
theorem few2F (L : List Ev) (v : Value) (w : World) (hr : EvQ w v L) (hn : L.length ≤ 1000) :
    Calls Tryz.prog 38 #[v] w fun e w' => ∃ v', e = .returned v' ∧ w'.ownsRow w.heap.size 76 4 v' L.length (cellsEv L) ∧ Below w.heap.size w w' := by
  obtain ⟨oa, cap, rfl, hcap, hc⟩ := hr
  obtain ⟨i0, z0, hi, hz0, hz1, hz2, hz3⟩ := elE.inf
  have hc' := hide' hc
  clear hc
  go_enter Tryz.func38, Tryz.ntmps38
  cases oa with
  | none =>
    obtain ⟨h1, h2⟩ := hcap
    have := h2 rfl
    subst this
    have : L = [] := List.eq_nil_of_length_eq_zero (by omega)
    subst this
    go_wp2_with (at_builtin; refine wpList_append_own_none rfl _ _ 26 rfl w.heap.size 76 i0 4 Tryz.underlying26 hi _ 0 (cellsEv []) rfl (owns_zeroE w) rfl ?_)
    go_ret
    exact ⟨_, rfl, owns_zeroE w, (Below.refl _ w).alloc (Nat.le_refl _) _⟩
  | some ad =>
    have hnews : ∀ j u, (cellsEv L)[j]? = some u → (w.alloc (.cells #[] 76)).cell? (ad.add j) = some u := fun j u hu => by
      have h := evs_news hc'.out j u hu
      exact (((Below.refl w.heap.size w).alloc (Nat.le_refl _) _).cell (World.block_lt_of_cell? w _ h)).trans h
    have hlen := cellsEv_len L
    have hone := evcells_one L
    clear hcap
    go_wp2_with (at_builtin; refine wpList_append_own _ rfl _ _ 26 rfl w.heap.size 76 i0 z0 4 32 Tryz.underlying26 hi hz0 hz1 hz2 hz3 (by decide) _ 0 (cellsEv []) rfl (owns_zeroE w) ad L.length cap (cellsEv L) rfl hlen hnews hone (by unfold maxLen; omega) (by omega) (by simp) ?_; intro v1 w1 hown1 hgrow1 hnil)
    go_ret
    have hown : w1.ownsRow w.heap.size 76 4 v1 (0 + L.length) (cellsEv L) := hown1
    rw [Nat.zero_add] at hown
    exact ⟨_, rfl, hown, ((Below.refl _ w).alloc (Nat.le_refl _) _).grown hgrow1 (by simp) (fun j ej => by cases ej; exact Nat.le_refl _)⟩
theorem elemE : Tryz.prog.underlying 26 = some (.slice (Tryz.prog.elem 26)) := by kernel_rfl
theorem sizeE (V : World) : (sizeOf (Tryz.prog.elem 26)).run Tryz.prog V = .ok 4 V := by kernel_rfl
/-- The head of a row that has events. -/
theorem ev_head {W : World} {g cv : Nat} {L : List Ev} (h : EvQ W (.slice (some ⟨g, 0, none⟩) L.length cv) L) {k : Nat} (hk : k < L.length) :
    ∃ sv, (∀ V : World, (Instr.sliceAt 26 (.slice (some ⟨g, 0, none⟩) L.length cv) none (some (.int .i64 (k : Int))) none).run Tryz.prog V = .ok sv V) ∧ EvQ W sv (L.take k) := by
  obtain ⟨oa, cap, e, hc, h⟩ := h
  injection e with e1 _ e2
  subst e1 e2
  have hc1 := hc.1
  refine ⟨.slice (some ⟨g, 0, none⟩) k cv, fun V => ?_, _, _, by rw [List.length_take, Nat.min_eq_left (by omega)], ⟨by rw [List.length_take]; omega, fun e => by cases e⟩, fun i x hx => ?_⟩
  · rw [run_sliceAt_slice _ _ _ _ _ _ elemE, run_slice_h _ _ _ _ _ elemE _ _ (by omega) (by omega), sizeE]
    show Result.ok (sliced (some ⟨g, 0, none⟩) 0 (k : Int).toNat cv 4) V = _
    unfold sliced
    congr 1
    simp [Addr.add]
  · have hi := (List.getElem?_eq_some_iff.1 hx).1
    rw [List.length_take] at hi
    rw [List.getElem?_take_of_lt (by omega)] at hx
    exact h i x hx
/-- The rest of such a row. -/
theorem ev_rest {W : World} {g cv : Nat} {L : List Ev} (h : EvQ W (.slice (some ⟨g, 0, none⟩) L.length cv) L) {k : Nat} (hk : k ≤ L.length) :
    ∃ ad c, (∀ V : World, (Instr.sliceAt 26 (.slice (some ⟨g, 0, none⟩) L.length cv) (some (.int .i64 (k : Int))) none none).run Tryz.prog V = .ok (.slice (some ad) (L.drop k).length c) V) ∧ EvQ W (.slice (some ad) (L.drop k).length c) (L.drop k) := by
  rw [List.length_drop]
  obtain ⟨oa, cap, e, hc, h⟩ := h
  injection e with e1 _ e2
  subst e1 e2
  have hc1 := hc.1
  by_cases e : cv = k
  · refine ⟨⟨g, 0, none⟩, cv - k, fun V => ?_, _, _, by rw [List.length_drop], ⟨by rw [List.length_drop]; omega, fun e => by cases e⟩, fun i x hx => ?_⟩
    · rw [run_sliceAt_slice _ _ _ _ _ _ elemE, run_slice_l _ _ _ _ _ elemE _ _ (by omega) (by omega), sizeE]
      show Result.ok (sliced (some ⟨g, 0, none⟩) (k : Int).toNat L.length cv 4) V = _
      unfold sliced
      rw [Int.toNat_natCast, if_pos e]
    · rw [List.drop_eq_nil_of_le (by omega)] at hx
      cases hx
  · refine ⟨⟨g, k * 4, none⟩, cv - k, fun V => ?_, _, _, by rw [List.length_drop], ⟨by rw [List.length_drop]; omega, fun e => by cases e⟩, fun i x hx => ?_⟩
    · rw [run_sliceAt_slice _ _ _ _ _ _ elemE, run_slice_l _ _ _ _ _ elemE _ _ (by omega) (by omega), sizeE]
      show Result.ok (sliced (some ⟨g, 0, none⟩) (k : Int).toNat L.length cv 4) V = _
      unfold sliced
      rw [Int.toNat_natCast, if_neg e]
      simp [Addr.add_lit]
    · rw [List.getElem?_drop] at hx
      obtain ⟨g', f', e', a0, a1, a2, a3⟩ := h _ _ hx
      injection e' with e'
      injection e' with e1 e2 _
      subst e1 e2
      have q : ∀ d : Nat, 0 + (k + i) * 4 + d = k * 4 + i * 4 + d := fun d => by omega
      have q0 : 0 + (k + i) * 4 = k * 4 + i * 4 := by omega
      rw [q0] at a0
      rw [q] at a1 a2 a3
      exact ⟨_, _, rfl, a0, a1, a2, a3⟩
end Go.Proofs.YtahfobbiaimoiaaGreatDoor
namespace Go.Proofs.YtahfobbiaimoiaaGreatDoor
open Go.RowKit
theorem turnK (a : Int) {n : Nat} (h1 : n ≠ 0) (hl : n ≤ 100000) : ∃ k : Nat, (wrap64 (a.tmod (n : Int) + (n : Int))).tmod (n : Int) = (k : Int) ∧ k < n := by
  have h1 := Int.tmod_lt_of_pos a (show (0 : Int) < (n : Int) by omega)
  have h2 := Int.lt_tmod_of_pos a (show (0 : Int) < (n : Int) by omega)
  generalize a.tmod (n : Int) = x at *
  rw [show wrap64 (x + (n : Int)) = x + (n : Int) by unfold wrap64; omega, Int.tmod_eq_emod_of_nonneg (by omega)]
  have h3 := Int.emod_nonneg (x + (n : Int)) (show (n : Int) ≠ 0 by omega)
  have h4 := Int.emod_lt_of_pos (x + (n : Int)) (show (0 : Int) < (n : Int) by omega)
  exact ⟨((x + (n : Int)) % (n : Int)).toNat, by omega, by omega⟩
theorem plyL_cn {n : Nat} (ab : Bool) (Pf : Nat → Nat) : ∀ (L : List Oq) {R : Rs}, Cn R → RsOk n R → Cn (plyL ab Pf R L) := by
  intro L
  induction L with
  | nil => exact fun h _ => h
  | cons o l ih => exact fun h ho => ih (plyR_cn ab Pf h ho o) (plyR_ok ab Pf ho o)
set_option maxRecDepth 10000 in
theorem appEw {o : Oper} {a : Act} {K : Act → World → Prop} {Q : Exit → Act → World → Prop} (s x : Operand) (ho : o.op = .call { callee := .builtin .append, args := #[s, x], argTypes := #[26, 26] }) (B : Nat) (W : World) (v : Value) (n : Nat) (xs : List Value) (ad : Addr) (cap : Nat) (L : List Ev)
    (es : a.eval s = v) (ex : a.eval x = .slice (some ad) L.length cap) (hT : W.ownsRow B 76 4 v n xs) (hE : EvQ W (.slice (some ad) L.length cap) L) (hB : B ≤ W.heap.size) (hn : n + L.length ≤ 1000000)
    (hK : ∀ oa cp w2, w2.ownsRow B 76 4 (.slice oa (n + L.length) cp) (n + L.length) (xs ++ cellsEv L) → W.grownBy w2 v.ownBlock → K (a.put o.dst (.slice oa (n + L.length) cp)) w2) : o.wp Tryz.prog a W K Q := by
  obtain ⟨i0, z0, hi, hz0, hz1, hz2, hz3⟩ := elE.inf
  obtain ⟨oa, cp, e, _, hc⟩ := hE
  injection e with e1 _ _
  subst e1
  obtain ⟨v', w', hr, h1, h2, _⟩ := run_append_own (P := Tryz.prog) W B 26 o.type 76 i0 z0 4 32 Tryz.underlying26 hi hz0 hz1 hz2 hz3 (by decide) v n xs hT ad L.length cap (cellsEv L) (cellsEv_len L) (evs_news hc) (evcells_one L) (by unfold maxLen; omega) (by omega) hB
  obtain ⟨oa, cp, rfl⟩ := own_shp h1
  unfold Oper.wp execOp
  simp only [ho, resolve, invoke, builtin, Sem.run_bind, Sem.run_pure, Result.andThen_ok, List.map_toArray, List.map_cons, List.map_nil, es, ex, hr]
  exact hK oa cp w' h1 h2
theorem cellsEv_app (L M : List Ev) : cellsEv (L ++ M) = cellsEv L ++ cellsEv M := by unfold cellsEv; rw [List.flatMap_append]
end Go.Proofs.YtahfobbiaimoiaaGreatDoor
