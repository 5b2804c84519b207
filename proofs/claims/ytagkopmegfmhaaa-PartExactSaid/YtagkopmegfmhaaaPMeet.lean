/- Meet, Finer: what they answer. -/
import Derived.Test.YtagkopmegfmhaaaPKer
import Derived.Test.YtagkopmegfmhaaaPWakes
namespace Go.Proofs.Ytagkopmegfmhaaa
open Go.RowKit
theorem rowI_shape {W : World} {v : Value} {l : List Int} (h : RowI W v l) : ∃ oa cap, v = .slice oa l.length cap ∧ l.length ≤ cap := by
  obtain ⟨oa, cap, e, h1, _⟩ := h
  exact ⟨oa, cap, e, h1.1⟩
theorem rowI_at {W : World} {oa : Option Addr} {n cap : Nat} {l : List Int} (h : RowI W (.slice oa n cap) l) {i : Nat} {z : Int} (hz : l[i]? = some z) : ∃ g o, oa = some ⟨g, o, none⟩ ∧ W.cell? ⟨g, o + i, none⟩ = some (.int .i64 z) := by
  obtain ⟨oa', cap', e, _, h⟩ := h
  cases e
  exact h i z hz
theorem owns_less {w : World} {B B' e size n : Nat} {v : Value} {xs : List Value} (h : w.ownsRow B' e size v n xs) (hB : B ≤ B') : w.ownsRow B e size v n xs := by
  refine ⟨h.1, ?_⟩
  rcases h.2 with h1 | ⟨g, cap, cur, e1, e2, e3⟩
  · exact .inl h1
  · exact .inr ⟨g, cap, cur, e1, Nat.le_trans hB e2, e3⟩
theorem rowI_shape' {W : World} {v : Value} {l : List Nat} {n : Nat} (h : RowI W v (ints l)) (hn : l.length = n) : ∃ oa cap, v = .slice oa n cap ∧ ∀ i z : Nat, l[i]? = some z → ∃ g o, oa = some ⟨g, o, none⟩ ∧ W.cell? ⟨g, o + i, none⟩ = some (.int .i64 (z : Int)) := by
  obtain ⟨oa, cap, e, _⟩ := rowI_shape h
  rw [ints_len, hn] at e
  subst e
  exact ⟨oa, cap, rfl, fun i z hz => rowI_at h (ints_at hz)⟩
set_option maxHeartbeats 400000 in
theorem alikeT (n : Nat) (a b : List Nat) (va vb : Value) (w : World) (ra : RowI w va (ints a)) (rb : RowI w vb (ints b)) (hla : a.length = n) (hlb : b.length = n) (hn : n ≤ 25) (ha : Leg 0 a) (hb : Leg 0 b) :
    Calls Try.prog 48 #[va, vb] w fun e w' => e = .returned (.bool true) ∧ w' = w := by
  have K1 := hide' (legalT a va w ra (by omega) ha)
  have K2 := hide' (legalT b vb w rb (by omega) hb)
  obtain ⟨oa, ca, rfl, _⟩ := rowI_shape' ra hla
  obtain ⟨ob, cb, rfl, _⟩ := rowI_shape' rb hlb
  clear hla hlb ra rb
  go_enter Try.func48, Try.ntmps48
  go_wp2_with fail
  refine K1.out.mono ?_
  rintro e w1 ⟨rfl, rfl⟩
  go_wp2_with fail
  refine K2.out.mono ?_
  rintro e w2 ⟨rfl, rfl⟩
  go_wp2
  go_ret
  exact ⟨rfl, rfl⟩
set_option maxRecDepth 100000 in
set_option maxHeartbeats 1000000 in
theorem equalP (n : Nat) (la lb : List Nat) (va vb : Value) (w : World) (ra : RowI w va (ints la)) (rb : RowI w vb (ints lb)) (hla : la.length = n) (hlb : lb.length = n) (hn : n ≤ 1000) :
    Calls Try.prog 52 #[va, vb] w fun e w' => e = .returned (.bool (decide (la = lb))) ∧ Below w.heap.size w w' := by
  obtain ⟨oa, ca, rfl, ha⟩ := rowI_shape' ra hla
  obtain ⟨ob, cb, rfl, hb⟩ := rowI_shape' rb hlb
  have ha' := hide' ha
  have hb' := hide' hb
  have hla' := hide' hla
  have hlb' := hide' hlb
  clear ha hb ra rb hla hlb
  go_enter Try.func52, Try.ntmps52
  go_wp2
  go_loopw [13] (fun k wr => Below w.heap.size w wr ∧ ∃ (c : Nat), c ≤ n ∧ k = .int .i64 c ∧ Hid (la.take c = lb.take c)) (fun k _ => ((n : Int) - intOf k).toNat)
  case atStart => exact ⟨Below.refl _ _, 0, Nat.zero_le _, rfl, by show _ = _; simp⟩
  case round =>
    obtain ⟨hB, c, hc, rfl, hE⟩ := hrel
    by_cases hlt : c < n
    · obtain ⟨x, hx⟩ : ∃ x, la[c]? = some x := ⟨_, List.getElem?_eq_getElem (by have := hla'.out; omega)⟩
      obtain ⟨y, hy⟩ : ∃ y, lb[c]? = some y := ⟨_, List.getElem?_eq_getElem (by have := hlb'.out; omega)⟩
      obtain ⟨ga, o1, rfl, c1'⟩ := ha'.out c x hx
      obtain ⟨gb, o2, rfl, c2'⟩ := hb'.out c y hy
      have c1 := (hB.cell (p := ⟨ga, o1 + c, none⟩) (cell_lt c1')).trans c1'
      have c2 := (hB.cell (p := ⟨gb, o2 + c, none⟩) (cell_lt c2')).trans c2'
      clear c1' c2'
      have hx' := hide' hx
      have hy' := hide' hy
      by_cases hxy : x = y
      · subst hxy
        clear hx hy
        go_wp2
        go_region
        go_wp2
        exact ⟨⟨hB.drew, c + 1, by omega, by go_num, by show _ = _; rw [List.take_add_one, List.take_add_one, hE.out, hx'.out, hy'.out]⟩, by simp [intOf]; omega⟩
      · have hd : ((x : Int) != (y : Int)) = true := by rw [bne_iff_ne]; omega
        clear hx hy
        go_wp2
        go_region
        go_wp2
        go_ret
        exact ⟨ret_bool (by rw [eq_comm]; simp only [decide_eq_false_iff_not]; intro e; subst e; rw [hx'.out] at hy'; exact hxy (Option.some.inj hy'.out)), hB.drew⟩
    · obtain rfl : c = n := by omega
      have e : Hid (la = lb) := by
        show _ = _
        have := hE.out
        rwa [List.take_of_length_le (Nat.le_of_eq hla'.out), List.take_of_length_le (Nat.le_of_eq hlb'.out)] at this
      clear hE ha' hb'
      go_wp2
      go_ret
      exact ⟨ret_bool (by simp [e.out]), hB⟩
set_option maxRecDepth 100000 in
set_option maxHeartbeats 1000000 in
theorem meetP (n : Nat) (a b : List Nat) (va vb : Value) (w : World) (ra : RowI w va (ints a)) (rb : RowI w vb (ints b)) (hla : a.length = n) (hlb : b.length = n) (hn : n ≤ 25) (ha : Leg 0 a) (hb : Leg 0 b) :
    Calls Try.prog 31 #[va, vb] w fun e w' => ∃ g, e = .returned (.tuple #[.slice (some ⟨g, 0, none⟩) n n, .int .i64 0]) ∧ w'.ownsRow w.heap.size 3 1 (.slice (some ⟨g, 0, none⟩) n n) n (cellsI (ints (pat (pairs a b)))) ∧ Below w.heap.size w w' := by
  have KA := hide' (alikeT n a b va vb w ra rb hla hlb hn ha hb)
  have hpl : (pairs a b).length = n := by rw [pairs_len (by omega)]; exact hla
  have KO : Hid (∀ v W, RowI W v (pairs a b) → Calls Try.prog 5 #[v] W fun e w' => ∃ g, e = .returned (.tuple #[.slice (some ⟨g, 0, none⟩) n n, .int .i64 0]) ∧ w'.ownsRow W.heap.size 3 1 (.slice (some ⟨g, 0, none⟩) n n) n (cellsI (ints (pat (pairs a b)))) ∧ Below W.heap.size W w') := fun v W h => by
    have := ofP (pairs a b) v W h (by omega) (fun z hz => by
      obtain ⟨i, hi⟩ := List.getElem?_of_mem hz
      have hlt := (List.getElem?_eq_some_iff.1 hi).1
      obtain ⟨x, hx⟩ : ∃ x, a[i]? = some x := ⟨_, List.getElem?_eq_getElem (by omega)⟩
      obtain ⟨y, hy⟩ : ∃ x, b[i]? = some x := ⟨_, List.getElem?_eq_getElem (by omega)⟩
      have s1 := leg_small ha (by omega) hx
      have s2 := leg_small hb (by omega) hy
      rw [pairs_at hx hy] at hi
      obtain rfl := Option.some.inj hi
      exact WalkArith.wf_i64 (by omega))
    rwa [hpl] at this
  obtain ⟨oa, ca, rfl, ra'⟩ := rowI_shape' ra hla
  obtain ⟨ob, cb, rfl, rb'⟩ := rowI_shape' rb hlb
  obtain ⟨i0, hi, hz0, hz1, hz2⟩ := info_parts info3
  have ra' := hide' ra'
  have rb' := hide' rb'
  have hla' := hide' hla
  have hlb' := hide' hlb
  have hpl' := hide' hpl
  have sa := hide' (fun (i x : Nat) (h : a[i]? = some x) => leg_small ha (by omega) h)
  have sb := hide' (fun (i x : Nat) (h : b[i]? = some x) => leg_small hb (by omega) h)
  clear ra rb hla hlb hpl ha hb
  go_enter Try.func31, Try.ntmps31
  go_wp2_with (first | (go_at_call 48; refine KA.out.mono ?_; rintro e w1 ⟨rfl, rfl⟩) | (at_make; refine wpList_make_full _ rfl _ _ 22 rfl w1.heap.size 3 i0 (.int .i64 0) 1 Try.underlying22 hi hz0 hz1 .i64 .i64 _ _ n rfl rfl rfl rfl (by rw [hz2]; omega) (by unfold maxLen; omega) (by omega) ?_; intro w2 hrow hgrow))
  have hr0 : w2.ownsRow w1.heap.size 3 1 (.slice (some ⟨w1.heap.size, 0, none⟩) n n) n (cellsI ((pairs a b).take 0) ++ List.replicate (n - 0) (.int .i64 0)) := by
    have h := hrow
    rw [show (Value.int .i64 0).cells = #[.int .i64 0] from rfl, toList_madeCells_one, Nat.mul_one] at h
    simpa [cellsI] using h
  have hB0 : Below w1.heap.size w1 w2 := (Below.refl _ w1).grown hgrow (Nat.le_refl _) (fun j ej => by cases ej)
  clear hrow hgrow
  go_loopw [17] (fun k wr => ∃ c : Nat, c ≤ n ∧ k = .int .i64 c ∧ wr.ownsRow w1.heap.size 3 1 (.slice (some ⟨w1.heap.size, 0, none⟩) n n) n (cellsI ((pairs a b).take c) ++ List.replicate (n - c) (.int .i64 0)) ∧ Below w1.heap.size w1 wr) (fun k _ => ((n : Int) - intOf k).toNat)
  case atStart => exact ⟨0, Nat.zero_le _, rfl, hr0, hB0⟩
  case round =>
    clear hr0 hB0
    obtain ⟨c, hc, rfl, hrow, hB⟩ := hrel
    by_cases hlt : c < n
    · obtain ⟨x, hx⟩ : ∃ x, a[c]? = some x := ⟨_, List.getElem?_eq_getElem (by have := hla'.out; omega)⟩
      obtain ⟨y, hy⟩ : ∃ y, b[c]? = some y := ⟨_, List.getElem?_eq_getElem (by have := hlb'.out; omega)⟩
      obtain ⟨ga, o1, rfl, c1'⟩ := ra'.out c x hx
      obtain ⟨gb, o2, rfl, c2'⟩ := rb'.out c y hy
      have c1 := (hB.cell (p := ⟨ga, o1 + c, none⟩) (cell_lt c1')).trans c1'
      have c2 := (hB.cell (p := ⟨gb, o2 + c, none⟩) (cell_lt c2')).trans c2'
      have s1 := sa.out c x hx
      have s2 := sb.out c y hy
      have hP := pairs_at hx hy
      have hpc : (cellsI ((pairs a b).take c)).length = c := by rw [cellsI, List.length_map, List.length_take]; have := hpl'.out; omega
      have cz : wr.cell? ⟨w1.heap.size, c, none⟩ = some (.int .i64 0) := by
        rw [hrow.cellAt c (by omega), List.getElem?_append_right (by omega), hpc, Nat.sub_self, List.getElem?_replicate, if_pos (by omega)]
      have fz := hrow.frozenAt c
      have hs := (hrow.stored c (.int .i64 ((x * 25 + y : Nat) : Int))).1
      rw [set_mid _ c n _ _ hpc hlt, show cellsI ((pairs a b).take c) ++ [.int .i64 ((x * 25 + y : Nat) : Int)] = cellsI ((pairs a b).take (c + 1)) by rw [List.take_add_one, hP]; simp [cellsI]] at hs
      have hcast : ((x * 25 + y : Nat) : Int) = (x : Int) * 25 + (y : Int) := by omega
      rw [hcast] at hs
      have hs' := hide' hs
      clear hs hcast hP hx hy c1' c2' hpc hrow
      go_wp2
      go_region
      go_wp2
      exact ⟨⟨c + 1, by omega, by go_num, hs'.out, (hB.setCell (Nat.le_refl _) _).drew⟩, by simp [intOf]; omega⟩
    · obtain rfl : c = n := by omega
      rw [List.take_of_length_le (Nat.le_of_eq hpl'.out), Nat.sub_self, List.replicate_zero, List.append_nil] at hrow
      have hR := RowI.of_owns hrow
      clear hrow
      go_wp2_with (go_at_call 5; refine (KO.out _ _ hR).mono ?_; rintro e w3 ⟨g, rfl, hown, hb⟩)
      exact bodyPost_ret (v := .tuple #[.slice (some ⟨g, 0, none⟩) c c, .int .i64 0]) (by simp [results, Try.results31, go_sem]) rfl ⟨g, rfl, owns_less hown hB.size, hB.trans (hb.mono hB.size)⟩
set_option maxHeartbeats 400000 in
theorem finerP (n : Nat) (a b : List Nat) (va vb : Value) (w : World) (ra : RowI w va (ints a)) (rb : RowI w vb (ints b)) (hla : a.length = n) (hlb : b.length = n) (hn : n ≤ 25) (ha : Leg 0 a) (hb : Leg 0 b) (q : Bool) (hq : q = true ↔ Finr a b) :
    Calls Try.prog 34 #[va, vb] w fun e w' => e = .returned (.bool q) ∧ Below w.heap.size w w' := by
  have KM := hide' (meetP n a b va vb w ra rb hla hlb hn ha hb)
  have KE : Hid (∀ v1 v2 W, RowI W v1 (ints (pat (pairs a b))) → RowI W v2 (ints a) → Calls Try.prog 52 #[v1, v2] W fun e w' => e = .returned (.bool q) ∧ Below W.heap.size W w') := fun v1 v2 W r1 r2 => by
    have := equalP n (pat (pairs a b)) a v1 v2 W r1 r2 (by rw [pat_len, pairs_len (by omega)]; exact hla) hla (by omega)
    have e : decide (pat (pairs a b) = a) = q := by
      rw [Bool.eq_iff_iff, decide_eq_true_iff, finer_iff ha hb (by omega) (by omega)]
      exact hq.symm
    rwa [e] at this
  have ra' := hide' ra
  obtain ⟨oa, ca, rfl, _⟩ := rowI_shape' ra hla
  obtain ⟨ob, cb, rfl, _⟩ := rowI_shape' rb hlb
  clear hla hlb ra rb hq
  go_enter Try.func34, Try.ntmps34
  go_wp2_with (first | (go_at_call 31; refine KM.out.mono ?_; rintro e w1 ⟨g, rfl, hown, hb1⟩) | (go_at_call 52; refine (KE.out _ _ _ (RowI.of_owns hown) (ra'.out.below hb1 (Nat.le_refl _))).mono ?_; rintro e w2 ⟨rfl, hb2⟩))
  go_ret
  exact ⟨rfl, hb1.trans (hb2.mono hb1.size)⟩
end Go.Proofs.Ytagkopmegfmhaaa
