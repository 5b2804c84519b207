/- BitsDown answers true for every word, wherever the library's table lies as it is laid; it makes new memory alone. -/
import Derived.Test.YtajfafckhipgeaaDoorDownLaw
import Derived.Test.YtajfafckhipgeaaDoorDown
import Derived.Test.YtajfafckhipgeaaDoorWakes
namespace Go.Proofs.YtajfafckhipgeaaDoor
open Go.RowKit Go.Shelf
attribute [local go_sem] Oper.semAt_some
set_option maxRecDepth 100000 in
set_option maxHeartbeats 4000000 in
theorem bitsDown_walk (A B : Nat) (I K : Int) (_hA : A < 18446744073709551616) (w : World) (ht : Tab w) :
    CallsIn Fence.wide 9 Tryd.prog 6 #[.agg #[.int .u64 A, .int .u64 B, .int .i64 I, .int .i64 K]] w fun e w' => e = .returned (.bool true) ∧ Below w.heap.size w w' := by
  have h3 := ht.2
  have hnil := eql_fn_d
  obtain ⟨a, ha, hal⟩ : ∃ a : Nat, (A : Int) % 4294967296 = (a : Int) ∧ a < 4294967296 := ⟨A % 4294967296, by omega, by omega⟩
  have hwa : IntKind.u64.wrap (a : Int) = (a : Int) := by
    simp only [IntKind.wrap, IntKind.signed, IntKind.bits, Bool.false_and, Bool.false_eq_true, if_false]; omega
  refine callsIn_of_wp_marks Tryd.func6 rfl trivial ?_ rfl
  simp only [Tryd.ntmps6, List.size_toArray, List.length_cons, List.length_nil, Nat.reduceAdd, Nat.reduceSub, Array.replicate_succ, Array.replicate_zero, List.push_toArray, List.append_toArray, List.nil_append, List.cons_append]
  gi_wp2_with fail
  refine ⟨trivial, (callsIn_wide.2 (of32 _ _ _)).mono ?_⟩
  rintro e w1 ⟨rfl, hb1⟩
  have s1 : w.heap.size + 3 ≤ w1.heap.size := by have := hb1.size; simp at this; omega
  have x0 : w1.heap[w.heap.size]? = some (.cells #[.int .u64 A, .int .u64 B, .int .i64 I, .int .i64 K] 24 (0, 0)) := (hb1.block _ (by simp; omega)).trans (alloc4 _ _ _ _).1
  have x1 : Boxed w1 (w.heap.size + 1) 4 (.bool false) := (hb1.block _ (by simp)).trans (alloc4 _ _ _ _).2
  have b1 : Below w.heap.size w w1 := ((((Below.refl _ w).alloc (Nat.le_refl _) _).alloc (by simp) _).alloc (by simp; omega) _).trans (hb1.mono (by simp; omega))
  clear hb1
  have cA : w1.cell? ⟨w.heap.size, 0, none⟩ = some (.int .u64 A) := by simp [World.cell?, x0]
  have cA' := cell_al cA
  gi_wp2_with fail
  refine ⟨trivial, (callsIn_wide.2 (refPlaces a 32 hal (by decide) _)).mono ?_⟩
  rintro e w2 ⟨v, rfl, hrow, hb2⟩
  obtain ⟨oa, cap, rfl⟩ := owns_shape hrow
  have X0 := (Below.heap_alloc w1 (.cells #[.int .u32 a] 46) w.heap.size (by omega)).trans x0
  have X1 := x1.alloc (.cells #[.int .u32 a] 46)
  have bN := Boxed.new w1 46 (.int .u32 a)
  have bW := b1.alloc b1.size (.cells #[.int .u32 a] 46)
  have hs1 : (w1.alloc (.cells #[.int .u32 a] 46)).heap.size = w1.heap.size + 1 := by simp
  clear x0 x1 b1 cA cA'
  generalize w1.alloc (.cells #[.int .u32 a] 46) = W1 at *
  have cS : w2.cell? ⟨w1.heap.size, 0, none⟩ = some (.int .u32 a) := (hb2.cell (p := ⟨w1.heap.size, 0, none⟩) (by show w1.heap.size < _; omega)).trans bN.cell
  generalize w1.heap.size = bs at *
  have s2 := hb2.size
  have hv := owns_lt hrow
  have cS1 := cell_al cS
  have hI0 := DI.start hb2 rfl hrow X0 X1 bW
  gi_wp2_with (refine ⟨trivial, ?_⟩; gi_at_call 30; refine (callsIn_wide.2 (down32 _ _)).mono ?_; rintro e w' ⟨rfl, rfl⟩)
  have hsz : (((w2.alloc (.cells #[.slice oa (nums a).length cap] 42 (0, 0))).alloc (.cells #[.int .u32 a] 46 (0, 0))).alloc (.cells #[.int .i64 (nums a).length] 3 (0, 0))).heap.size = w2.heap.size + 1 + 1 + 1 := by simp
  generalize ((w2.alloc (.cells #[.slice oa (nums a).length cap] 42 (0, 0))).alloc (.cells #[.int .u32 a] 46 (0, 0))).alloc (.cells #[.int .i64 (nums a).length] 3 (0, 0)) = W0 at *
  have hgW : w.heap.size ≤ W1.heap.size := bW.size
  clear X0 X1 bW bN cS cS1 hnil hrow hb2
  have hdl := downs_len a
  have hnl := nums_len a
  refine rangeN (n := 9) (by decide) (gf := 46) (lb := #[.pointer (some ⟨w2.heap.size + 1, 0, none⟩)]) rfl (enters_of Tryd.func46 (by kernel_rfl) rfl)
    (down_seq 8 (w2.heap.size + 1) a (by decide) hal W0 (by omega) (ht.over hI0.2.2.2.2.2.2) hI0.2.2.1.cell) KpB.t (KpB.b (by omega) (by omega)) (fun _ => rfl)
    (DnI w _ w2.heap.size W1.heap.size a _) (DnX w a) (DnI.own rfl (by omega)) (DnX.own (by omega)) ⟨hI0, List.nil_prefix⟩ ?a1 ?assign ?body ?done ?stop
  case assign =>
    intro l k W K' hK'
    gi_wp2
    exact hK'
  case body =>
    rintro l pre z V ⟨hDI, hp⟩ hlt
    obtain ⟨r, hr⟩ : ∃ r, (nums a).length - pre.length = r + 1 := ⟨(nums a).length - pre.length - 1, by omega⟩
    rw [hr] at hDI
    obtain ⟨q1, q2, q3, q4, q5, q6, q7⟩ := id hDI
    obtain ⟨g, cap', hvs⟩ := owns_form q6 (by omega)
    cases hvs
    have hgb : g < w2.heap.size := hv g rfl
    have hstep := hDI.step (by omega) (fun g' hg' => by simp [Value.ownBlock] at hg'; omega) r (r : Int) rfl
    obtain ⟨j, hj⟩ : ∃ j, (nums a)[r]? = some j := ⟨_, List.getElem?_eq_getElem (by omega)⟩
    have HJ : Hid ((pre ++ [z]) <+: downs a ↔ z = (j.val : Int)) := prefix_snocI (k := z) hp (downs_get a pre.length j hlt (by rw [hr]; exact hj))
    have cW := q4.cell
    have cN : V.cell? ⟨w2.heap.size + 1 + 1, 0, none⟩ = some (.int .i64 ((r : Int) + 1)) := by have := q5.cell; rwa [show (((r + 1 : Nat)) : Int) = (r : Int) + 1 by omega] at this
    have fN := q5.frozen
    have cR := q2.cell
    have fR := q2.frozen
    have cJ := row_cell q6 hj
    have cK : V.cell? ⟨w.heap.size, 3, none⟩ = some (.int .i64 K) := by simp [World.cell?, q1]
    have HL : Hid ((nums a).length - (pre ++ [z]).length = r) := by show _ = _; simp; omega
    have HS := hide' hstep
    have HQ3 := hide' q3
    have hr64 : r < (nums a).length := by omega
    have HT : Hid (Tab (V.setCell ⟨w2.heap.size + 1 + 1, 0, none⟩ (.int .i64 r))) := ht.over hstep.2.2.2.2.2.2
    clear hj q1 q2 q3 q4 q5 q6 q7 hp hDI hstep hI0 hv hlt
    have hz1 : w2.heap.size + 1 + 1 < W0.heap.size := by omega
    have hz2 : w.heap.size + 1 < w2.heap.size := by omega
    clear hsz hs1 s2 s1 hgW hdl
    generalize hN : (nums a).length = N at *
    by_cases hzj : z = (j.val : Int)
    · subst hzj
      by_cases hKz : K = (j.val : Int)
      · subst hKz
        gi_wp2_with (refine ⟨trivial, ?_⟩; gi_at_call 20; refine (CallsIn.inRound l (callsIn_wide.2 (wakes _ HT.out))).mono ?_; rintro e w6 ⟨rfl, hb6⟩; have r26 : Boxed w6 (w.heap.size + 1) 4 (.bool false) := (hb6.block _ HS.out.2.1.lt).trans HS.out.2.1; have cR6 := r26.cell; have fR6 := r26.frozen)
        exact ⟨(((KeepsOthers.setCell _ _ _).trans (keepsO hb6)).trans (KeepsOthers.setCell _ _ _)).from _,
          ⟨rfl, .inr ⟨r26.set _, (HS.out.2.2.2.2.2.2.trans (hb6.mono HS.out.2.2.2.2.2.2.size)).setCell (p := ⟨w.heap.size + 1, 0, none⟩) (by show w.heap.size ≤ w.heap.size + 1; omega) _⟩⟩,
          ((Kept.setCell V _ (by omega)).trans (Kept.below hb6)).trans (Kept.setCell _ _ (by omega))⟩
      · have hKne : (K == (j.val : Int)) = false := by rw [beq_eq_false_iff_ne]; exact hKz
        gi_wp2
        exact ⟨(KeepsOthers.setCell _ _ _).from _, ⟨(HQ3.out.other (by omega) _).cell.trans HQ3.out.cell.symm, fun h => h.below h3 ((Below.refl _ V).setCell (p := ⟨w2.heap.size + 1 + 1, 0, none⟩) (by show w.heap.size ≤ w2.heap.size + 1 + 1; omega) _)⟩,
          DnI.of HS.out (by rw [hN]; exact HL.out) (HJ.out.2 (by trivial)), Kept.setCell _ _ (by omega)⟩
    · have hne : (z != (j.val : Int)) = true := by rw [bne_iff_ne]; exact hzj
      gi_wp2
      exact ⟨((KeepsOthers.setCell _ _ _).trans (KeepsOthers.setCell _ _ _)).from _, ⟨rfl, .inl fun h => hzj (HJ.out.1 h)⟩, (Kept.setCell V _ (by omega)).trans (Kept.setCell _ _ (by omega))⟩
  case done =>
    rintro D ys V hD rfl ⟨hDI, _⟩ hK
    rw [hdl, Nat.sub_self] at hDI
    obtain ⟨r1, r2, r3, r4, r5, r6, r7⟩ := hDI
    have cN := r5.cell
    gi_wp2_with (refine ⟨trivial, ?_⟩; gi_at_call 20; refine (callsIn_wide.2 (wakes _ (ht.over r7))).mono ?_; rintro e w6 ⟨rfl, hb6⟩; have r26 : Boxed w6 (w.heap.size + 1) 4 (.bool false) := (hb6.block _ r2.lt).trans r2; have cR6 := r26.cell; have fR6 := r26.frozen)
    have k2 := (KeepsOthers.setCell w6 ⟨w.heap.size + 1, 0, none⟩ (.bool true)).same D _ ((keepsO hb6).same D _ hK rfl) rfl
    have bE := (r26.set (.bool true)).kept (grownBy_putObj' _ D (.deferred none)) (by intro e; cases e; omega)
    have cE := bE.cell
    refine ⟨by simp, .inl ⟨_, _, rfl, run_takeDeferred k2, ?_⟩⟩
    refine ⟨.bool true, by simp [results, Tryd.results6, go_sem, cE], rfl, ?_⟩
    exact ((r7.trans (hb6.mono r7.size)).setCell (p := ⟨w.heap.size + 1, 0, none⟩) (by show w.heap.size ≤ w.heap.size + 1; omega) _).trans (belowK_b (w := w) (Nat.le_refl _) _ D _ _ (by omega) k2 rfl rfl)
  case stop =>
    rintro D c pre V hD hp ⟨rfl, h1 | ⟨h1, h2⟩⟩ hK
    · exact absurd hp h1
    gi_wp2
    have bE := h1.kept (grownBy_putObj' _ D (.deferred none)) (by intro e; cases e; omega)
    have cE := bE.cell
    refine ⟨by simp, .inl ⟨_, _, rfl, run_takeDeferred hK, ?_⟩⟩
    refine ⟨.bool true, by simp [results, Tryd.results6, go_sem, cE], rfl, ?_⟩
    exact h2.trans (belowK_b (w := w) (Nat.le_refl _) _ D _ _ (by omega) hK rfl rfl)
end Go.Proofs.YtajfafckhipgeaaDoor
