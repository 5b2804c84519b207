/- BitsAll answers true for every word, wherever the library's table lies as it is laid; it makes new memory alone. -/
import Derived.Test.YtajfafckhipgeaaDoorAllLaw
namespace Go.Proofs.YtajfafckhipgeaaDoor
open Go.RowKit Go.Shelf
attribute [local go_sem] Oper.semAt_some
set_option maxRecDepth 100000 in
set_option maxHeartbeats 4000000 in
theorem bitsAll_walk (A B : Nat) (I K : Int) (hA : A < 18446744073709551616) (w : World) (ht : Tab w) :
    CallsIn Fence.wide 9 Tryd.prog 5 #[.agg #[.int .u64 A, .int .u64 B, .int .i64 I, .int .i64 K]] w fun e w' => e = .returned (.bool true) ∧ Below w.heap.size w w' := by
  have h3 := ht.2
  have hnil := eql_fn
  refine callsIn_of_wp_marks Tryd.func5 rfl trivial ?_ rfl
  simp only [Tryd.ntmps5, List.size_toArray, List.length_cons, List.length_nil, Nat.reduceAdd, Nat.reduceSub, Array.replicate_succ, Array.replicate_zero, List.push_toArray, List.append_toArray, List.nil_append, List.cons_append]
  gi_wp2_with fail
  refine ⟨trivial, (callsIn_wide.2 (of64 _ _ _)).mono ?_⟩
  rintro e w1 ⟨rfl, hb1⟩
  have s1 : w.heap.size + 3 ≤ w1.heap.size := by have := hb1.size; simp at this; omega
  have x0 : w1.heap[w.heap.size]? = some (.cells #[.int .u64 A, .int .u64 B, .int .i64 I, .int .i64 K] 24 (0, 0)) := (hb1.block _ (by simp; omega)).trans (alloc4 _ _ _ _).1
  have x1 : Boxed w1 (w.heap.size + 1) 4 (.bool false) := (hb1.block _ (by simp)).trans (alloc4 _ _ _ _).2
  have b1 : Below w.heap.size w w1 := ((((Below.refl _ w).alloc (Nat.le_refl _) _).alloc (by simp) _).alloc (by simp; omega) _).trans (hb1.mono (by simp; omega))
  clear hb1
  gi_wp2_with (refine ⟨trivial, ?_⟩; gi_at_call 27; refine (callsIn_wide.2 (all64 _ _)).mono ?_; rintro e w' ⟨rfl, rfl⟩)
  have X0 := (Below.heap_alloc (w1.alloc (.cells #[.int .u64 A] 26)) (.cells #[.int .u64 A] 26) w.heap.size (by simp; omega)).trans ((Below.heap_alloc w1 (.cells #[.int .u64 A] 26) w.heap.size (by omega)).trans x0)
  have X1 := (x1.alloc (.cells #[.int .u64 A] 26)).alloc (.cells #[.int .u64 A] 26)
  have bN := Boxed.new (w1.alloc (.cells #[.int .u64 A] 26)) 26 (.int .u64 A)
  rw [World.size_alloc] at bN
  have bW := (b1.alloc b1.size (.cells #[.int .u64 A] 26)).alloc (by have := b1.size; simp; omega) (.cells #[.int .u64 A] 26)
  have hs1 : ((w1.alloc (.cells #[.int .u64 A] 26)).alloc (.cells #[.int .u64 A] 26)).heap.size = w1.heap.size + 1 + 1 := by simp
  clear x0 x1 b1
  generalize (w1.alloc (.cells #[.int .u64 A] 26)).alloc (.cells #[.int .u64 A] 26) = W1 at *
  generalize w1.heap.size = bs at *
  refine wpIn_loop_rounds 3 ?_
  rw [roundsIn_succ]
  have cA : W1.cell? ⟨w.heap.size, 0, none⟩ = some (.int .u64 A) := by simp [World.cell?, X0]
  have cK : W1.cell? ⟨w.heap.size, 3, none⟩ = some (.int .i64 K) := by simp [World.cell?, X0]
  gi_wp2_with fail
  refine ⟨trivial, (callsIn_wide.2 (refPlaces A 64 hA (Nat.le_refl _) _)).mono ?_⟩
  rintro e w2 ⟨v, rfl, hrow, hb2⟩
  obtain ⟨oa, cap, rfl⟩ := owns_shape hrow
  have s2 := hb2.size
  have hv := owns_lt hrow
  have X02 := (hb2.block w.heap.size (by omega)).trans X0
  have cK2 : w2.cell? ⟨w.heap.size, 3, none⟩ = some (.int .i64 K) := by simp [World.cell?, X02]
  have cK3 := fun o1 o2 o3 => cell_al (cell_al (cell_al cK2 o1) o2) o3
  by_cases hK : 0 ≤ K
  · gi_wp2
    have hI0 := AI.start hb2 rfl hrow X0 X1 bN bW K
    refine range_all (fun _ => True) hA ht rfl (by simp; omega) (by simp; omega) (fun _ _ _ _ h _ _ => h) hI0 trivial (by omega) rfl rfl ?a1 ?assign ?body ?done ?stop
    case assign =>
      intro l k W K' hK'
      gi_wp2
      exact hK'
    case body =>
      rintro l pre k V hAI hE hp hst hlt
      obtain ⟨q1, q2, q3, q4, q5, q6, q7, q8⟩ := hAI
      obtain ⟨g, cap', hvs⟩ := owns_form q7 (by omega)
      cases hvs
      have hgb : g < w2.heap.size := hv g rfl
      have hAI : AI w (.cells #[.int .u64 A, .int .u64 B, .int .i64 I, .int .i64 K] 24 (0, 0)) bs w2.heap.size W1.heap.size A (K) (.slice (some ⟨g, 0, none⟩) (nums A).length cap) pre.length V := ⟨q1, q2, q3, q4, q5, q6, q7, q8⟩
      have hstep := hAI.step (by omega) (by omega) (fun g' hg' => by simp [Value.ownBlock] at hg'; omega) ((pre.length : Int) + 1) rfl
      obtain ⟨j, hj⟩ : ∃ j, (nums A)[pre.length]? = some j := ⟨_, List.getElem?_eq_getElem hlt⟩
      have HJ : Hid ((pre ++ [k]) <+: nums A ↔ k = j) := prefix_snoc (k := k) hp hj
      have cW := q4.cell
      have cN := q5.cell
      have fN := q5.frozen
      have cS := q6.cell
      have cR := q2.cell
      have fR := q2.frozen
      have cJ := row_cell q7 hj
      have hnl := nums_len A
      have hst' : (pre.length : Int) ≤ K := by omega
      have HL : Hid ((pre ++ [k]).length = pre.length + 1) := by show _ = _; simp
      have HS := hide' hstep
      have HQ3 := hide' q3
      have hbs : bs + 2 ≤ w2.heap.size := by omega
      clear hj q1 q2 q3 q4 q5 q6 q7 q8 hp hst hAI hstep hI0 hrow hb2 X0 X02 X1 bN bW cA cK cK2 cK3 hv hs1
      generalize (nums A).length = N at *
      generalize pre.length = m at *
      by_cases hkj : k = j
      · subst hkj
        by_cases hmk : (m : Int) = K
        · have hd : ((m : Int) == K) = true := by simpa using hmk
          have Hmk : Hid ((m : Int) = K) := hmk
          clear hmk
          gi_wp2
          exact ⟨(KeepsOthers.setCell _ _ _).from _, .inl ⟨rfl, by rw [HL.out]; exact HS.out, trivial, hK, by rw [HL.out]; have := Hmk.out; omega⟩⟩
        · have hd : ((m : Int) == K) = false := by simpa using hmk
          have Hmk : Hid (¬ (m : Int) = K) := hmk
          clear hmk
          gi_wp2
          exact ⟨(KeepsOthers.setCell _ _ _).from _, ⟨(HQ3.out.other (by omega) _).cell.trans HQ3.out.cell.symm, fun h => h.below h3 ((Below.refl _ V).setCell (p := ⟨w2.heap.size + 1, 0, none⟩) (by show w.heap.size ≤ w2.heap.size + 1; omega) _)⟩, by rw [AllI, HL.out]; exact ⟨HS.out, trivial, HJ.out.2 (by trivial), .inr (by have := Hmk.out; omega)⟩⟩
      · have hne : ((k.val : Int) != (j.val : Int)) = true := by
          rw [bne_iff_ne]; intro e; exact hkj (Fin.ext (by omega))
        gi_wp2
        exact ⟨(KeepsOthers.setCell _ _ _).from _, .inr ⟨rfl, fun h => hkj (HJ.out.1 h)⟩⟩
    case done =>
      rintro D W hD hAI - hKD
      obtain ⟨q1, q2, q3, q4, q5, q6, q7, q8⟩ := hAI
      have cW := q4.cell
      have cN := q5.cell
      have cS := q6.cell
      have hnl := nums_len A
      generalize hN : (nums A).length = N at *
      gi_wp2
      subst hN
      have hB2 : Below w.heap.size w W := q8
      have hDl : w2.heap.size ≤ D := by simp at hD; omega
      clear cW cN cS q4 q5 q6 q7 q8 hnl hI0 hrow hb2 X0 X02 X1 bN bW cA cK cK2 cK3 hv hD
      rw [roundsIn_succ]
      have cA2 : W.cell? ⟨w.heap.size, 0, none⟩ = some (.int .u64 A) := by simp [World.cell?, q1]
      have hDs := (Array.getElem?_eq_some_iff.1 hKD).1
      have hl3 := q3.lt
      gi_wp2_with fail
      refine ⟨trivial, (callsIn_wide.2 (refPlaces A 64 hA (Nat.le_refl _) _)).mono ?_⟩
      rintro e w5 ⟨v5, rfl, hrow5, hb5⟩
      obtain ⟨oa5, cap5, rfl⟩ := owns_shape hrow5
      have s5 := hb5.size
      have hv5 := owns_lt hrow5
      gi_wp2
      have hI5 := AI.start hb5 rfl hrow5 q1 q2 q3 hB2 (-1)
      refine range_all (fun V => V.heap[D]? = some (.deferred (some []))) hA ht rfl (by simp; omega) (by simp; omega) (own_def (by simp; omega)) hI5 (by rw [Below.heap_alloc _ _ _ (by simp; omega), Below.heap_alloc _ _ _ (by simp; omega), Below.heap_alloc _ _ _ (by omega)]; exact (hb5.block _ hDs).trans hKD) (by omega) rfl rfl ?a2x1 ?assign2x1 ?body2x1 ?done2x1 ?stop2x1
      case assign2x1 =>
        intro l k V K' hK'
        gi_wp2
        exact hK'
      case body2x1 =>
        rintro l pre k V hAI hE hp hst hlt
        obtain ⟨q1, q2, q3, q4, q5, q6, q7, q8⟩ := hAI
        obtain ⟨g, cap', hvs⟩ := owns_form q7 (by omega)
        cases hvs
        have hgb : g < w5.heap.size := hv5 g rfl
        have hAI : AI w (.cells #[.int .u64 A, .int .u64 B, .int .i64 I, .int .i64 K] 24 (0, 0)) bs w5.heap.size W.heap.size A (-1) (.slice (some ⟨g, 0, none⟩) (nums A).length cap5) pre.length V := ⟨q1, q2, q3, q4, q5, q6, q7, q8⟩
        have hstep := hAI.step (by omega) (by omega) (fun g' hg' => by simp [Value.ownBlock] at hg'; omega) ((pre.length : Int) + 1) rfl
        obtain ⟨j, hj⟩ : ∃ j, (nums A)[pre.length]? = some j := ⟨_, List.getElem?_eq_getElem hlt⟩
        have HJ : Hid ((pre ++ [k]) <+: nums A ↔ k = j) := prefix_snoc (k := k) hp hj
        have cW := q4.cell
        have cN := q5.cell
        have fN := q5.frozen
        have cS := q6.cell
        have cR := q2.cell
        have fR := q2.frozen
        have cJ := row_cell q7 hj
        have hnl := nums_len A
        have hst' : (0 : Int) ≤ (pre.length : Int) := by omega
        have HL : Hid ((pre ++ [k]).length = pre.length + 1) := by show _ = _; simp
        have HS := hide' hstep
        have HQ3 := hide' q3
        have hbs : bs + 2 ≤ w5.heap.size := by omega
        have HE : Hid ((V.setCell ⟨w5.heap.size + 1, 0, none⟩ (.int .i64 ((pre.length : Int) + 1))).heap[D]? = some (.deferred (some []))) := (Below.heap_setCell _ _ _ D (by show D ≠ w5.heap.size + 1; omega)).trans hE
        clear hj q1 q2 q3 q4 q5 q6 q7 q8 hp hst hAI hstep hI5 hrow5 hb5 hv5 hE
        generalize (nums A).length = N at *
        generalize pre.length = m at *
        by_cases hkj : k = j
        · subst hkj
          have hd : ((m : Int) == -1) = false := by rw [beq_eq_false_iff_ne]; omega
          gi_wp2
          exact ⟨(KeepsOthers.setCell _ _ _).from _, ⟨(HQ3.out.other (by omega) _).cell.trans HQ3.out.cell.symm, fun h => h.below h3 ((Below.refl _ V).setCell (p := ⟨w5.heap.size + 1, 0, none⟩) (by show w.heap.size ≤ w5.heap.size + 1; omega) _)⟩, by rw [AllI, HL.out]; exact ⟨HS.out, HE.out, HJ.out.2 (by trivial), .inl (by omega)⟩⟩
        · have hne : ((k.val : Int) != (j.val : Int)) = true := by
            rw [bne_iff_ne]; intro e; exact hkj (Fin.ext (by omega))
          gi_wp2
          exact ⟨(KeepsOthers.setCell _ _ _).from _, .inr ⟨rfl, fun h => hkj (HJ.out.1 h)⟩⟩
      case done2x1 =>
        rintro D2 V hD2 hAI hE2 hKD2
        obtain ⟨r1, r2, r3, r4, r5, r6, r7, r8⟩ := hAI
        have cW := r4.cell
        have cN := r5.cell
        have cS := r6.cell
        have hnl := nums_len A
        clear hI5
        generalize (nums A).length = N at *
        gi_wp2
        rw [roundsIn_succ]
        gi_wp2_with (refine ⟨trivial, ?_⟩; gi_at_call 20; refine (callsIn_wide.2 (wakes _ (ht.over r8))).mono ?_; rintro e w6 ⟨rfl, hb6⟩; have r26 : Boxed w6 (w.heap.size + 1) 4 (.bool false) := (hb6.block _ r2.lt).trans r2; have cR6 := r26.cell; have fR6 := r26.frozen)
        have k2 := (KeepsOthers.setCell w6 ⟨w.heap.size + 1, 0, none⟩ (.bool true)).same D2 _ ((keepsO hb6).same D2 _ hKD2 rfl) rfl
        have k1 := (KeepsOthers.setCell w6 ⟨w.heap.size + 1, 0, none⟩ (.bool true)).same D _ ((keepsO hb6).same D _ hE2 rfl) rfl
        have hD2l : w5.heap.size ≤ D2 := by simp at hD2; omega
        have k1' := (World.putObj_heap_other (o := .deferred none) (show D ≠ D2 by omega)).trans k1
        have bE := ((r26.set (.bool true)).kept (grownBy_putObj' _ D2 (.deferred none)) (by intro e; cases e; omega)).kept (grownBy_putObj' _ D (.deferred none)) (by intro e; cases e; omega)
        have cE := bE.cell
        refine ⟨by simp, .inl ⟨_, _, rfl, run_takeDeferred k2, ⟨by simp, .inl ⟨_, _, rfl, run_takeDeferred k1', ?_⟩⟩⟩⟩
        refine ⟨.bool true, by simp [results, Tryd.results5, go_sem, cE], rfl, ?_⟩
        exact (((r8.trans (hb6.mono r8.size)).setCell (p := ⟨w.heap.size + 1, 0, none⟩) (by show w.heap.size ≤ w.heap.size + 1; omega) _).trans (belowK_b (w := w) (Nat.le_refl _) _ D2 _ _ (by omega) k2 rfl rfl)).trans (belowK_b (w := w) (Nat.le_refl _) _ D _ _ (by omega) k1' rfl rfl)
      case stop2x1 =>
        rintro D2 m V _ _ _ _ h0
        omega
    case stop =>
      rintro D m W hD hAI - hm hst hms hKD
      obtain ⟨q1, q2, q3, q4, q5, q6, q7, q8⟩ := hAI
      have cW := q4.cell
      have cN := q5.cell
      have cS := q6.cell
      have hnl := nums_len A
      have hKb : K < 64 := by omega
      have Hms : Hid ((m : Int) = K + 1) := hms
      clear hms
      by_cases hmN : m = (nums A).length
      · have hd : ((m : Int) != ((nums A).length : Int)) = false := by simp [hmN]
        generalize hN : (nums A).length = N at *
        clear hmN
        gi_wp2
        subst hN
        clear hd Hms
        have hB2 : Below w.heap.size w W := q8
        have hDl : w2.heap.size ≤ D := by simp at hD; omega
        clear cW cN cS q4 q5 q6 q7 q8 hnl hI0 hrow hb2 X0 X02 X1 bN bW cA cK cK2 cK3 hv hD
        rw [roundsIn_succ]
        have cA2 : W.cell? ⟨w.heap.size, 0, none⟩ = some (.int .u64 A) := by simp [World.cell?, q1]
        have hDs := (Array.getElem?_eq_some_iff.1 hKD).1
        have hl3 := q3.lt
        gi_wp2_with fail
        refine ⟨trivial, (callsIn_wide.2 (refPlaces A 64 hA (Nat.le_refl _) _)).mono ?_⟩
        rintro e w5 ⟨v5, rfl, hrow5, hb5⟩
        obtain ⟨oa5, cap5, rfl⟩ := owns_shape hrow5
        have s5 := hb5.size
        have hv5 := owns_lt hrow5
        gi_wp2
        have hI5 := AI.start hb5 rfl hrow5 q1 q2 q3 hB2 (-1)
        refine range_all (fun V => V.heap[D]? = some (.deferred (some []))) hA ht rfl (by simp; omega) (by simp; omega) (own_def (by simp; omega)) hI5 (by rw [Below.heap_alloc _ _ _ (by simp; omega), Below.heap_alloc _ _ _ (by simp; omega), Below.heap_alloc _ _ _ (by omega)]; exact (hb5.block _ hDs).trans hKD) (by omega) rfl rfl ?a2x2 ?assign2x2 ?body2x2 ?done2x2 ?stop2x2
        case assign2x2 =>
          intro l k V K' hK'
          gi_wp2
          exact hK'
        case body2x2 =>
          rintro l pre k V hAI hE hp hst hlt
          obtain ⟨q1, q2, q3, q4, q5, q6, q7, q8⟩ := hAI
          obtain ⟨g, cap', hvs⟩ := owns_form q7 (by omega)
          cases hvs
          have hgb : g < w5.heap.size := hv5 g rfl
          have hAI : AI w (.cells #[.int .u64 A, .int .u64 B, .int .i64 I, .int .i64 K] 24 (0, 0)) bs w5.heap.size W.heap.size A (-1) (.slice (some ⟨g, 0, none⟩) (nums A).length cap5) pre.length V := ⟨q1, q2, q3, q4, q5, q6, q7, q8⟩
          have hstep := hAI.step (by omega) (by omega) (fun g' hg' => by simp [Value.ownBlock] at hg'; omega) ((pre.length : Int) + 1) rfl
          obtain ⟨j, hj⟩ : ∃ j, (nums A)[pre.length]? = some j := ⟨_, List.getElem?_eq_getElem hlt⟩
          have HJ : Hid ((pre ++ [k]) <+: nums A ↔ k = j) := prefix_snoc (k := k) hp hj
          have cW := q4.cell
          have cN := q5.cell
          have fN := q5.frozen
          have cS := q6.cell
          have cR := q2.cell
          have fR := q2.frozen
          have cJ := row_cell q7 hj
          have hnl := nums_len A
          have hst' : (0 : Int) ≤ (pre.length : Int) := by omega
          have HL : Hid ((pre ++ [k]).length = pre.length + 1) := by show _ = _; simp
          have HS := hide' hstep
          have HQ3 := hide' q3
          have hbs : bs + 2 ≤ w5.heap.size := by omega
          have HE : Hid ((V.setCell ⟨w5.heap.size + 1, 0, none⟩ (.int .i64 ((pre.length : Int) + 1))).heap[D]? = some (.deferred (some []))) := (Below.heap_setCell _ _ _ D (by show D ≠ w5.heap.size + 1; omega)).trans hE
          clear hj q1 q2 q3 q4 q5 q6 q7 q8 hp hst hAI hstep hI5 hrow5 hb5 hv5 hE
          generalize (nums A).length = N at *
          generalize pre.length = m at *
          by_cases hkj : k = j
          · subst hkj
            have hd : ((m : Int) == -1) = false := by rw [beq_eq_false_iff_ne]; omega
            gi_wp2
            exact ⟨(KeepsOthers.setCell _ _ _).from _, ⟨(HQ3.out.other (by omega) _).cell.trans HQ3.out.cell.symm, fun h => h.below h3 ((Below.refl _ V).setCell (p := ⟨w5.heap.size + 1, 0, none⟩) (by show w.heap.size ≤ w5.heap.size + 1; omega) _)⟩, by rw [AllI, HL.out]; exact ⟨HS.out, HE.out, HJ.out.2 (by trivial), .inl (by omega)⟩⟩
          · have hne : ((k.val : Int) != (j.val : Int)) = true := by
              rw [bne_iff_ne]; intro e; exact hkj (Fin.ext (by omega))
            gi_wp2
            exact ⟨(KeepsOthers.setCell _ _ _).from _, .inr ⟨rfl, fun h => hkj (HJ.out.1 h)⟩⟩
        case done2x2 =>
          rintro D2 V hD2 hAI hE2 hKD2
          obtain ⟨r1, r2, r3, r4, r5, r6, r7, r8⟩ := hAI
          have cW := r4.cell
          have cN := r5.cell
          have cS := r6.cell
          have hnl := nums_len A
          clear hI5
          generalize (nums A).length = N at *
          gi_wp2
          rw [roundsIn_succ]
          gi_wp2_with (refine ⟨trivial, ?_⟩; gi_at_call 20; refine (callsIn_wide.2 (wakes _ (ht.over r8))).mono ?_; rintro e w6 ⟨rfl, hb6⟩; have r26 : Boxed w6 (w.heap.size + 1) 4 (.bool false) := (hb6.block _ r2.lt).trans r2; have cR6 := r26.cell; have fR6 := r26.frozen)
          have k2 := (KeepsOthers.setCell w6 ⟨w.heap.size + 1, 0, none⟩ (.bool true)).same D2 _ ((keepsO hb6).same D2 _ hKD2 rfl) rfl
          have k1 := (KeepsOthers.setCell w6 ⟨w.heap.size + 1, 0, none⟩ (.bool true)).same D _ ((keepsO hb6).same D _ hE2 rfl) rfl
          have hD2l : w5.heap.size ≤ D2 := by simp at hD2; omega
          have k1' := (World.putObj_heap_other (o := .deferred none) (show D ≠ D2 by omega)).trans k1
          have bE := ((r26.set (.bool true)).kept (grownBy_putObj' _ D2 (.deferred none)) (by intro e; cases e; omega)).kept (grownBy_putObj' _ D (.deferred none)) (by intro e; cases e; omega)
          have cE := bE.cell
          refine ⟨by simp, .inl ⟨_, _, rfl, run_takeDeferred k2, ⟨by simp, .inl ⟨_, _, rfl, run_takeDeferred k1', ?_⟩⟩⟩⟩
          refine ⟨.bool true, by simp [results, Tryd.results5, go_sem, cE], rfl, ?_⟩
          exact (((r8.trans (hb6.mono r8.size)).setCell (p := ⟨w.heap.size + 1, 0, none⟩) (by show w.heap.size ≤ w.heap.size + 1; omega) _).trans (belowK_b (w := w) (Nat.le_refl _) _ D2 _ _ (by omega) k2 rfl rfl)).trans (belowK_b (w := w) (Nat.le_refl _) _ D _ _ (by omega) k1' rfl rfl)
        case stop2x2 =>
          rintro D2 m V _ _ _ _ h0
          omega
      · have hd : ((m : Int) != ((nums A).length : Int)) = true := by rw [bne_iff_ne]; omega
        have hd2 : ((m : Int) != K + 1) = false := by have := Hms.out; simp [this]
        generalize hN : (nums A).length = N at *
        clear hmN
        gi_wp2
        subst hN
        clear hd hd2 Hms
        have hB2 : Below w.heap.size w W := q8
        have hDl : w2.heap.size ≤ D := by simp at hD; omega
        clear cW cN cS q4 q5 q6 q7 q8 hnl hI0 hrow hb2 X0 X02 X1 bN bW cA cK cK2 cK3 hv hD
        rw [roundsIn_succ]
        have cA2 : W.cell? ⟨w.heap.size, 0, none⟩ = some (.int .u64 A) := by simp [World.cell?, q1]
        have hDs := (Array.getElem?_eq_some_iff.1 hKD).1
        have hl3 := q3.lt
        gi_wp2_with fail
        refine ⟨trivial, (callsIn_wide.2 (refPlaces A 64 hA (Nat.le_refl _) _)).mono ?_⟩
        rintro e w5 ⟨v5, rfl, hrow5, hb5⟩
        obtain ⟨oa5, cap5, rfl⟩ := owns_shape hrow5
        have s5 := hb5.size
        have hv5 := owns_lt hrow5
        gi_wp2
        have hI5 := AI.start hb5 rfl hrow5 q1 q2 q3 hB2 (-1)
        refine range_all (fun V => V.heap[D]? = some (.deferred (some []))) hA ht rfl (by simp; omega) (by simp; omega) (own_def (by simp; omega)) hI5 (by rw [Below.heap_alloc _ _ _ (by simp; omega), Below.heap_alloc _ _ _ (by simp; omega), Below.heap_alloc _ _ _ (by omega)]; exact (hb5.block _ hDs).trans hKD) (by omega) rfl rfl ?a2x3 ?assign2x3 ?body2x3 ?done2x3 ?stop2x3
        case assign2x3 =>
          intro l k V K' hK'
          gi_wp2
          exact hK'
        case body2x3 =>
          rintro l pre k V hAI hE hp hst hlt
          obtain ⟨q1, q2, q3, q4, q5, q6, q7, q8⟩ := hAI
          obtain ⟨g, cap', hvs⟩ := owns_form q7 (by omega)
          cases hvs
          have hgb : g < w5.heap.size := hv5 g rfl
          have hAI : AI w (.cells #[.int .u64 A, .int .u64 B, .int .i64 I, .int .i64 K] 24 (0, 0)) bs w5.heap.size W.heap.size A (-1) (.slice (some ⟨g, 0, none⟩) (nums A).length cap5) pre.length V := ⟨q1, q2, q3, q4, q5, q6, q7, q8⟩
          have hstep := hAI.step (by omega) (by omega) (fun g' hg' => by simp [Value.ownBlock] at hg'; omega) ((pre.length : Int) + 1) rfl
          obtain ⟨j, hj⟩ : ∃ j, (nums A)[pre.length]? = some j := ⟨_, List.getElem?_eq_getElem hlt⟩
          have HJ : Hid ((pre ++ [k]) <+: nums A ↔ k = j) := prefix_snoc (k := k) hp hj
          have cW := q4.cell
          have cN := q5.cell
          have fN := q5.frozen
          have cS := q6.cell
          have cR := q2.cell
          have fR := q2.frozen
          have cJ := row_cell q7 hj
          have hnl := nums_len A
          have hst' : (0 : Int) ≤ (pre.length : Int) := by omega
          have HL : Hid ((pre ++ [k]).length = pre.length + 1) := by show _ = _; simp
          have HS := hide' hstep
          have HQ3 := hide' q3
          have hbs : bs + 2 ≤ w5.heap.size := by omega
          have HE : Hid ((V.setCell ⟨w5.heap.size + 1, 0, none⟩ (.int .i64 ((pre.length : Int) + 1))).heap[D]? = some (.deferred (some []))) := (Below.heap_setCell _ _ _ D (by show D ≠ w5.heap.size + 1; omega)).trans hE
          clear hj q1 q2 q3 q4 q5 q6 q7 q8 hp hst hAI hstep hI5 hrow5 hb5 hv5 hE
          generalize (nums A).length = N at *
          generalize pre.length = m at *
          by_cases hkj : k = j
          · subst hkj
            have hd : ((m : Int) == -1) = false := by rw [beq_eq_false_iff_ne]; omega
            gi_wp2
            exact ⟨(KeepsOthers.setCell _ _ _).from _, ⟨(HQ3.out.other (by omega) _).cell.trans HQ3.out.cell.symm, fun h => h.below h3 ((Below.refl _ V).setCell (p := ⟨w5.heap.size + 1, 0, none⟩) (by show w.heap.size ≤ w5.heap.size + 1; omega) _)⟩, by rw [AllI, HL.out]; exact ⟨HS.out, HE.out, HJ.out.2 (by trivial), .inl (by omega)⟩⟩
          · have hne : ((k.val : Int) != (j.val : Int)) = true := by
              rw [bne_iff_ne]; intro e; exact hkj (Fin.ext (by omega))
            gi_wp2
            exact ⟨(KeepsOthers.setCell _ _ _).from _, .inr ⟨rfl, fun h => hkj (HJ.out.1 h)⟩⟩
        case done2x3 =>
          rintro D2 V hD2 hAI hE2 hKD2
          obtain ⟨r1, r2, r3, r4, r5, r6, r7, r8⟩ := hAI
          have cW := r4.cell
          have cN := r5.cell
          have cS := r6.cell
          have hnl := nums_len A
          clear hI5
          generalize (nums A).length = N at *
          gi_wp2
          rw [roundsIn_succ]
          gi_wp2_with (refine ⟨trivial, ?_⟩; gi_at_call 20; refine (callsIn_wide.2 (wakes _ (ht.over r8))).mono ?_; rintro e w6 ⟨rfl, hb6⟩; have r26 : Boxed w6 (w.heap.size + 1) 4 (.bool false) := (hb6.block _ r2.lt).trans r2; have cR6 := r26.cell; have fR6 := r26.frozen)
          have k2 := (KeepsOthers.setCell w6 ⟨w.heap.size + 1, 0, none⟩ (.bool true)).same D2 _ ((keepsO hb6).same D2 _ hKD2 rfl) rfl
          have k1 := (KeepsOthers.setCell w6 ⟨w.heap.size + 1, 0, none⟩ (.bool true)).same D _ ((keepsO hb6).same D _ hE2 rfl) rfl
          have hD2l : w5.heap.size ≤ D2 := by simp at hD2; omega
          have k1' := (World.putObj_heap_other (o := .deferred none) (show D ≠ D2 by omega)).trans k1
          have bE := ((r26.set (.bool true)).kept (grownBy_putObj' _ D2 (.deferred none)) (by intro e; cases e; omega)).kept (grownBy_putObj' _ D (.deferred none)) (by intro e; cases e; omega)
          have cE := bE.cell
          refine ⟨by simp, .inl ⟨_, _, rfl, run_takeDeferred k2, ⟨by simp, .inl ⟨_, _, rfl, run_takeDeferred k1', ?_⟩⟩⟩⟩
          refine ⟨.bool true, by simp [results, Tryd.results5, go_sem, cE], rfl, ?_⟩
          exact (((r8.trans (hb6.mono r8.size)).setCell (p := ⟨w.heap.size + 1, 0, none⟩) (by show w.heap.size ≤ w.heap.size + 1; omega) _).trans (belowK_b (w := w) (Nat.le_refl _) _ D2 _ _ (by omega) k2 rfl rfl)).trans (belowK_b (w := w) (Nat.le_refl _) _ D _ _ (by omega) k1' rfl rfl)
        case stop2x3 =>
          rintro D2 m V _ _ _ _ h0
          omega
  · have hK' : decide (0 ≤ K) = false := by simpa using hK
    gi_wp2
    have hI0 := AI.start hb2 rfl hrow X0 X1 bN bW (-1)
    refine range_all (fun _ => True) hA ht rfl (by simp; omega) (by simp; omega) (fun _ _ _ _ h _ _ => h) hI0 trivial (by omega) rfl rfl ?a1N ?assignN ?bodyN ?doneN ?stopN
    case assignN =>
      intro l k W K' hK'
      gi_wp2
      exact hK'
    case bodyN =>
      rintro l pre k V hAI hE hp hst hlt
      obtain ⟨q1, q2, q3, q4, q5, q6, q7, q8⟩ := hAI
      obtain ⟨g, cap', hvs⟩ := owns_form q7 (by omega)
      cases hvs
      have hgb : g < w2.heap.size := hv g rfl
      have hAI : AI w (.cells #[.int .u64 A, .int .u64 B, .int .i64 I, .int .i64 K] 24 (0, 0)) bs w2.heap.size W1.heap.size A (-1) (.slice (some ⟨g, 0, none⟩) (nums A).length cap) pre.length V := ⟨q1, q2, q3, q4, q5, q6, q7, q8⟩
      have hstep := hAI.step (by omega) (by omega) (fun g' hg' => by simp [Value.ownBlock] at hg'; omega) ((pre.length : Int) + 1) rfl
      obtain ⟨j, hj⟩ : ∃ j, (nums A)[pre.length]? = some j := ⟨_, List.getElem?_eq_getElem hlt⟩
      have HJ : Hid ((pre ++ [k]) <+: nums A ↔ k = j) := prefix_snoc (k := k) hp hj
      have cW := q4.cell
      have cN := q5.cell
      have fN := q5.frozen
      have cS := q6.cell
      have cR := q2.cell
      have fR := q2.frozen
      have cJ := row_cell q7 hj
      have hnl := nums_len A
      have hst' : (0 : Int) ≤ (pre.length : Int) := by omega
      have HL : Hid ((pre ++ [k]).length = pre.length + 1) := by show _ = _; simp
      have HS := hide' hstep
      have HQ3 := hide' q3
      have hbs : bs + 2 ≤ w2.heap.size := by omega
      clear hj q1 q2 q3 q4 q5 q6 q7 q8 hp hst hAI hstep hI0 hrow hb2 X0 X02 X1 bN bW cA cK cK2 cK3 hv hs1
      generalize (nums A).length = N at *
      generalize pre.length = m at *
      by_cases hkj : k = j
      · subst hkj
        have hd : ((m : Int) == -1) = false := by rw [beq_eq_false_iff_ne]; omega
        gi_wp2
        exact ⟨(KeepsOthers.setCell _ _ _).from _, ⟨(HQ3.out.other (by omega) _).cell.trans HQ3.out.cell.symm, fun h => h.below h3 ((Below.refl _ V).setCell (p := ⟨w2.heap.size + 1, 0, none⟩) (by show w.heap.size ≤ w2.heap.size + 1; omega) _)⟩, by rw [AllI, HL.out]; exact ⟨HS.out, trivial, HJ.out.2 (by trivial), .inl (by omega)⟩⟩
      · have hne : ((k.val : Int) != (j.val : Int)) = true := by
          rw [bne_iff_ne]; intro e; exact hkj (Fin.ext (by omega))
        gi_wp2
        exact ⟨(KeepsOthers.setCell _ _ _).from _, .inr ⟨rfl, fun h => hkj (HJ.out.1 h)⟩⟩
    case doneN =>
      rintro D W hD hAI - hKD
      obtain ⟨q1, q2, q3, q4, q5, q6, q7, q8⟩ := hAI
      have cW := q4.cell
      have cN := q5.cell
      have cS := q6.cell
      have hnl := nums_len A
      generalize hN : (nums A).length = N at *
      gi_wp2
      subst hN
      have hB2 : Below w.heap.size w W := q8
      have hDl : w2.heap.size ≤ D := by simp at hD; omega
      clear cW cN cS q4 q5 q6 q7 q8 hnl hI0 hrow hb2 X0 X02 X1 bN bW cA cK cK2 cK3 hv hD
      rw [roundsIn_succ]
      have cA2 : W.cell? ⟨w.heap.size, 0, none⟩ = some (.int .u64 A) := by simp [World.cell?, q1]
      have hDs := (Array.getElem?_eq_some_iff.1 hKD).1
      have hl3 := q3.lt
      gi_wp2_with fail
      refine ⟨trivial, (callsIn_wide.2 (refPlaces A 64 hA (Nat.le_refl _) _)).mono ?_⟩
      rintro e w5 ⟨v5, rfl, hrow5, hb5⟩
      obtain ⟨oa5, cap5, rfl⟩ := owns_shape hrow5
      have s5 := hb5.size
      have hv5 := owns_lt hrow5
      gi_wp2
      have hI5 := AI.start hb5 rfl hrow5 q1 q2 q3 hB2 (-1)
      refine range_all (fun V => V.heap[D]? = some (.deferred (some []))) hA ht rfl (by simp; omega) (by simp; omega) (own_def (by simp; omega)) hI5 (by rw [Below.heap_alloc _ _ _ (by simp; omega), Below.heap_alloc _ _ _ (by simp; omega), Below.heap_alloc _ _ _ (by omega)]; exact (hb5.block _ hDs).trans hKD) (by omega) rfl rfl ?a2x4 ?assign2x4 ?body2x4 ?done2x4 ?stop2x4
      case assign2x4 =>
        intro l k V K' hK'
        gi_wp2
        exact hK'
      case body2x4 =>
        rintro l pre k V hAI hE hp hst hlt
        obtain ⟨q1, q2, q3, q4, q5, q6, q7, q8⟩ := hAI
        obtain ⟨g, cap', hvs⟩ := owns_form q7 (by omega)
        cases hvs
        have hgb : g < w5.heap.size := hv5 g rfl
        have hAI : AI w (.cells #[.int .u64 A, .int .u64 B, .int .i64 I, .int .i64 K] 24 (0, 0)) bs w5.heap.size W.heap.size A (-1) (.slice (some ⟨g, 0, none⟩) (nums A).length cap5) pre.length V := ⟨q1, q2, q3, q4, q5, q6, q7, q8⟩
        have hstep := hAI.step (by omega) (by omega) (fun g' hg' => by simp [Value.ownBlock] at hg'; omega) ((pre.length : Int) + 1) rfl
        obtain ⟨j, hj⟩ : ∃ j, (nums A)[pre.length]? = some j := ⟨_, List.getElem?_eq_getElem hlt⟩
        have HJ : Hid ((pre ++ [k]) <+: nums A ↔ k = j) := prefix_snoc (k := k) hp hj
        have cW := q4.cell
        have cN := q5.cell
        have fN := q5.frozen
        have cS := q6.cell
        have cR := q2.cell
        have fR := q2.frozen
        have cJ := row_cell q7 hj
        have hnl := nums_len A
        have hst' : (0 : Int) ≤ (pre.length : Int) := by omega
        have HL : Hid ((pre ++ [k]).length = pre.length + 1) := by show _ = _; simp
        have HS := hide' hstep
        have HQ3 := hide' q3
        have hbs : bs + 2 ≤ w5.heap.size := by omega
        have HE : Hid ((V.setCell ⟨w5.heap.size + 1, 0, none⟩ (.int .i64 ((pre.length : Int) + 1))).heap[D]? = some (.deferred (some []))) := (Below.heap_setCell _ _ _ D (by show D ≠ w5.heap.size + 1; omega)).trans hE
        clear hj q1 q2 q3 q4 q5 q6 q7 q8 hp hst hAI hstep hI5 hrow5 hb5 hv5 hE
        generalize (nums A).length = N at *
        generalize pre.length = m at *
        by_cases hkj : k = j
        · subst hkj
          have hd : ((m : Int) == -1) = false := by rw [beq_eq_false_iff_ne]; omega
          gi_wp2
          exact ⟨(KeepsOthers.setCell _ _ _).from _, ⟨(HQ3.out.other (by omega) _).cell.trans HQ3.out.cell.symm, fun h => h.below h3 ((Below.refl _ V).setCell (p := ⟨w5.heap.size + 1, 0, none⟩) (by show w.heap.size ≤ w5.heap.size + 1; omega) _)⟩, by rw [AllI, HL.out]; exact ⟨HS.out, HE.out, HJ.out.2 (by trivial), .inl (by omega)⟩⟩
        · have hne : ((k.val : Int) != (j.val : Int)) = true := by
            rw [bne_iff_ne]; intro e; exact hkj (Fin.ext (by omega))
          gi_wp2
          exact ⟨(KeepsOthers.setCell _ _ _).from _, .inr ⟨rfl, fun h => hkj (HJ.out.1 h)⟩⟩
      case done2x4 =>
        rintro D2 V hD2 hAI hE2 hKD2
        obtain ⟨r1, r2, r3, r4, r5, r6, r7, r8⟩ := hAI
        have cW := r4.cell
        have cN := r5.cell
        have cS := r6.cell
        have hnl := nums_len A
        clear hI5
        generalize (nums A).length = N at *
        gi_wp2
        rw [roundsIn_succ]
        gi_wp2_with (refine ⟨trivial, ?_⟩; gi_at_call 20; refine (callsIn_wide.2 (wakes _ (ht.over r8))).mono ?_; rintro e w6 ⟨rfl, hb6⟩; have r26 : Boxed w6 (w.heap.size + 1) 4 (.bool false) := (hb6.block _ r2.lt).trans r2; have cR6 := r26.cell; have fR6 := r26.frozen)
        have k2 := (KeepsOthers.setCell w6 ⟨w.heap.size + 1, 0, none⟩ (.bool true)).same D2 _ ((keepsO hb6).same D2 _ hKD2 rfl) rfl
        have k1 := (KeepsOthers.setCell w6 ⟨w.heap.size + 1, 0, none⟩ (.bool true)).same D _ ((keepsO hb6).same D _ hE2 rfl) rfl
        have hD2l : w5.heap.size ≤ D2 := by simp at hD2; omega
        have k1' := (World.putObj_heap_other (o := .deferred none) (show D ≠ D2 by omega)).trans k1
        have bE := ((r26.set (.bool true)).kept (grownBy_putObj' _ D2 (.deferred none)) (by intro e; cases e; omega)).kept (grownBy_putObj' _ D (.deferred none)) (by intro e; cases e; omega)
        have cE := bE.cell
        refine ⟨by simp, .inl ⟨_, _, rfl, run_takeDeferred k2, ⟨by simp, .inl ⟨_, _, rfl, run_takeDeferred k1', ?_⟩⟩⟩⟩
        refine ⟨.bool true, by simp [results, Tryd.results5, go_sem, cE], rfl, ?_⟩
        exact (((r8.trans (hb6.mono r8.size)).setCell (p := ⟨w.heap.size + 1, 0, none⟩) (by show w.heap.size ≤ w.heap.size + 1; omega) _).trans (belowK_b (w := w) (Nat.le_refl _) _ D2 _ _ (by omega) k2 rfl rfl)).trans (belowK_b (w := w) (Nat.le_refl _) _ D _ _ (by omega) k1' rfl rfl)
      case stop2x4 =>
        rintro D2 m V _ _ _ _ h0
        omega
    case stopN =>
      rintro D m W _ _ _ _ h0
      omega
end Go.Proofs.YtajfafckhipgeaaDoor
