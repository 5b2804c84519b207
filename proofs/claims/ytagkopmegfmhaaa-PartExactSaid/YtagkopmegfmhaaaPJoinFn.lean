/- slices.Index, relabel, Join: what they answer. -/
import Derived.Test.YtagkopmegfmhaaaPJoin
namespace Go.Proofs.Ytagkopmegfmhaaa
open Go.RowKit
set_option maxRecDepth 100000 in
set_option maxHeartbeats 1000000 in
theorem indexP (n : Nat) (l : List Nat) (x : Nat) (v : Value) (w : World) (r : RowI w v (ints l)) (hl : l.length = n) (hn : n ≤ 25) (hx : x ∈ l) :
    Calls Try.prog 50 #[v, .int .i64 x] w fun e w' => e = .returned (.int .i64 (l.idxOf x : Nat)) ∧ w' = w := by
  obtain ⟨oa, ca, rfl, ha⟩ := rowI_shape' r hl
  have ha' := hide' ha
  have hl' := hide' hl
  have hx' := hide' hx
  clear ha r hl hx
  go_enter Try.func50, Try.ntmps50
  go_wp2
  go_loop [8] (fun k => ∃ c : Nat, c ≤ n ∧ k = .int .i64 c ∧ Hid (x ∉ l.take c)) (fun k => ((n : Int) - intOf k).toNat)
  case atStart => exact ⟨0, Nat.zero_le _, rfl, by show _ ∉ _; simp⟩
  case round =>
    obtain ⟨c, hc, rfl, hN⟩ := hrel
    by_cases hlt : c < n
    · obtain ⟨y, hy⟩ : ∃ y, l[c]? = some y := ⟨_, List.getElem?_eq_getElem (by have := hl'.out; omega)⟩
      obtain ⟨ga, o1, rfl, c1⟩ := ha'.out c y hy
      by_cases hxy : x = y
      · subst hxy
        have e : Hid (l.idxOf x = c) := by
          show _ = _
          have hsp : l = l.take c ++ x :: l.drop (c + 1) := by rw [← drop_at hy, List.take_append_drop]
          rw [hsp, List.idxOf_append, if_neg hN.out, List.idxOf_cons_self, List.length_take]
          have := hl'.out
          omega
        clear hy
        go_wp2
        go_ret
        exact ⟨ret_int (by rw [e.out]), rfl⟩
      · have hd : ((x : Int) == (y : Int)) = false := by simp; omega
        have hN2 : Hid (x ∉ l.take (c + 1)) := by
          show _ ∉ _
          rw [take_snoc hy]
          intro h
          rcases List.mem_append.1 h with h | h
          · exact hN.out h
          · exact hxy (List.mem_singleton.1 h)
        clear hy
        go_wp2
        go_round
        case rel => exact ⟨c + 1, by omega, by go_num, hN2⟩
        case measure => simp [intOf]; omega
    · obtain rfl : c = n := by omega
      have := hN.out
      rw [List.take_of_length_le (Nat.le_of_eq hl'.out)] at this
      exact absurd hx'.out this
set_option maxRecDepth 100000 in
set_option maxHeartbeats 1000000 in
theorem relabelP (base g cap n : Nat) (l : List Nat) (f t : Nat) (w : World) (hrow : w.ownsRow base 3 1 (.slice (some ⟨g, 0, none⟩) n cap) n (cellsI (ints l))) (hl : l.length = n) (hn : n ≤ 25) :
    Calls Try.prog 49 #[.slice (some ⟨g, 0, none⟩) n cap, .int .i64 f, .int .i64 t] w fun e w' => e = .returned (.tuple #[]) ∧ w'.ownsRow base 3 1 (.slice (some ⟨g, 0, none⟩) n cap) n (cellsI (ints (relab l f t))) ∧ Below g w w' := by
  have hl' := hide' hl
  clear hl
  go_enter Try.func49, Try.ntmps49
  go_wp2
  go_loopw [10] (fun k wr => ∃ c : Nat, c ≤ n ∧ k = .int .i64 c ∧ wr.ownsRow base 3 1 (.slice (some ⟨g, 0, none⟩) n cap) n (cellsI (ints (relab (l.take c) f t ++ l.drop c))) ∧ Below g w wr) (fun k _ => ((n : Int) - intOf k).toNat)
  case atStart => exact ⟨0, Nat.zero_le _, rfl, by simpa [relab] using hrow, Below.refl _ _⟩
  case round =>
    clear hrow
    obtain ⟨c, hc, rfl, hrow, hB⟩ := hrel
    by_cases hlt : c < n
    · obtain ⟨x, hx⟩ : ∃ x, l[c]? = some x := ⟨_, List.getElem?_eq_getElem (by have := hl'.out; omega)⟩
      have hpl : (relab (l.take c) f t).length = c := by rw [relab, List.length_map, List.length_take]; have := hl'.out; omega
      have hD := drop_at hx
      have hx2 : (relab (l.take c) f t ++ l.drop c)[c]? = some x := by
        rw [List.getElem?_append_right (by omega), hpl, Nat.sub_self, hD]; rfl
      have hT := take_snoc hx
      have cx : wr.cell? ⟨g, c, none⟩ = some (.int .i64 (x : Int)) := by
        rw [hrow.cellAt c (by omega)]
        simp only [cellsI, ints, List.map_map, List.getElem?_map, hx2]; rfl
      have fx := hrow.frozenAt c
      by_cases hxf : x = f
      · subst hxf
        have hs := (hrow.stored c (.int .i64 (t : Int))).1
        rw [set_at t hx2] at hs
        have e1 : (relab (l.take c) x t ++ l.drop c).take c = relab (l.take c) x t := by
          rw [List.take_append, List.take_of_length_le (by omega), hpl, Nat.sub_self, List.take_zero, List.append_nil]
        have e2 : (relab (l.take c) x t ++ l.drop c).drop (c + 1) = l.drop (c + 1) := by
          rw [List.drop_append, List.drop_of_length_le (by omega), List.nil_append, List.drop_drop, hpl]
          congr 1; omega
        rw [e1, e2, show relab (l.take c) x t ++ t :: l.drop (c + 1) = relab (l.take (c + 1)) x t ++ l.drop (c + 1) by rw [hT]; simp [relab]] at hs
        have hs' := hide' hs
        clear hs hx hx2 e1 e2 hD hpl hT hrow
        go_wp2
        exact ⟨⟨c + 1, by omega, by go_num, hs'.out, hB.setCell (Nat.le_refl _) _⟩, by simp [intOf]; omega⟩
      · have hd : ((x : Int) == (f : Int)) = false := by simp; omega
        have hs : Hid (relab (l.take c) f t ++ l.drop c = relab (l.take (c + 1)) f t ++ l.drop (c + 1)) := by
          show _ = _
          rw [hT, hD]; simp [relab, hxf]
        clear hx hx2 hD hpl hT
        go_wp2
        exact ⟨⟨c + 1, by omega, by go_num, by rw [← hs.out]; exact hrow, hB⟩, by simp [intOf]; omega⟩
    · obtain rfl : c = n := by omega
      rw [List.take_of_length_le (Nat.le_of_eq hl'.out), List.drop_of_length_le (Nat.le_of_eq hl'.out), List.append_nil] at hrow
      go_wp2
      exact bodyPost_end (v := .tuple #[]) (by simp [results, Try.results49, go_sem]) rfl ⟨rfl, hrow, hB⟩
set_option maxRecDepth 100000 in
set_option maxHeartbeats 2000000 in
theorem joinP (n : Nat) (a b : List Nat) (va vb : Value) (w : World) (ra : RowI w va (ints a)) (rb : RowI w vb (ints b)) (hla : a.length = n) (hlb : b.length = n) (hn : n ≤ 25) (hn0 : 0 < n) (ha : Leg 0 a) (hb : Leg 0 b) :
    Calls Try.prog 32 #[va, vb] w fun e w' => ∃ g, e = .returned (.tuple #[.slice (some ⟨g, 0, none⟩) n n, .int .i64 0]) ∧ w'.ownsRow w.heap.size 3 1 (.slice (some ⟨g, 0, none⟩) n n) n (cellsI (ints (joinR a b))) ∧ Below w.heap.size w w' := by
  have KA := hide' (alikeT n a b va vb w ra rb hla hlb hn ha hb)
  have KC := hide' (clone (ints a) va w ra (by rw [ints_len]; omega))
  rw [ints_len, hla] at KC
  obtain ⟨oa, ca, rfl, _⟩ := rowI_shape' ra hla
  have rbH := hide' rb
  obtain ⟨ob, cb, rfl, rb'⟩ := rowI_shape' rb hlb
  have rb' := hide' rb'
  have hla' := hide' hla
  have hlb' := hide' hlb
  have hjs : Hid (∀ c, ∀ x ∈ jn a b c, x < 25) := fun c => by
    induction c with
    | zero =>
      intro x hx
      obtain ⟨i, hi⟩ := List.getElem?_of_mem hx
      exact leg_small ha (by omega) hi
    | succ c ih =>
      intro x hx
      rw [jn, relab] at hx
      obtain ⟨z, hz, rfl⟩ := List.mem_map.1 hx
      have h0 : ∀ i, (jn a b c).getD i 0 < 25 := fun i => by
        rw [List.getD_eq_getElem?_getD]
        cases h : (jn a b c)[i]? with
        | none => show 0 < 25; decide
        | some y => exact ih y (List.mem_of_getElem? h)
      split
      · exact h0 _
      · exact ih z hz
  clear ra rb hla hlb ha hb
  go_enter Try.func32, Try.ntmps32
  go_wp2_with fail
  refine KA.out.mono ?_
  rintro e w1 ⟨rfl, rfl⟩
  go_wp2_with fail
  refine KC.out.mono ?_
  rintro e w2 ⟨v, rfl, hown, hB2⟩
  obtain ⟨g, cap, rfl⟩ : ∃ g cap, v = .slice (some ⟨g, 0, none⟩) n cap := by
    rcases hown.2 with ⟨rfl, h⟩ | ⟨g, cap, cur, rfl, _⟩
    · omega
    · exact ⟨_, _, rfl⟩
  have hg : w1.heap.size ≤ g := by
    rcases hown.2 with ⟨h, _⟩ | ⟨g', cap', cur, e1, e2, _⟩
    · cases h
    · cases e1; exact e2
  have hpw : Hid (∀ z ∈ ints (jn a b n), (Lit.int .i64 z).wf = true) := fun z hz => by
    obtain ⟨x, hx, rfl⟩ := List.mem_map.1 hz
    have := hjs.out n x hx
    exact WalkArith.wf_i64 (by omega)
  have KO : Hid (∀ v W, RowI W v (ints (jn a b n)) → Calls Try.prog 5 #[v] W fun e w' => ∃ g, e = .returned (.tuple #[.slice (some ⟨g, 0, none⟩) n n, .int .i64 0]) ∧ w'.ownsRow W.heap.size 3 1 (.slice (some ⟨g, 0, none⟩) n n) n (cellsI (ints (joinR a b))) ∧ Below W.heap.size W w') := fun v W h => by
    have hjl : (ints (jn a b n)).length = n := by rw [ints_len, jn_len]; exact hla'.out
    have := ofP (ints (jn a b n)) v W h (by omega) hpw.out
    rw [hjl] at this
    have e : joinR a b = pat (ints (jn a b n)) := by rw [joinR, hlb'.out]
    rw [e]; exact this
  have hown0 : w2.ownsRow w1.heap.size 3 1 (.slice (some ⟨g, 0, none⟩) n cap) n (cellsI (ints (jn a b 0))) := hown
  clear hown
  go_wp2
  go_loopw [16] (fun k wr => ∃ c : Nat, c ≤ n ∧ k = .int .i64 c ∧ wr.ownsRow w1.heap.size 3 1 (.slice (some ⟨g, 0, none⟩) n cap) n (cellsI (ints (jn a b c))) ∧ Below w1.heap.size w1 wr) (fun k _ => ((n : Int) - intOf k).toNat)
  case atStart => exact ⟨0, Nat.zero_le _, rfl, hown0, hB2⟩
  case round =>
    clear hown0
    obtain ⟨c, hc, rfl, hrow, hB⟩ := hrel
    by_cases hlt : c < n
    · have hjl : (jn a b c).length = n := by rw [jn_len]; exact hla'.out
      have hbl := hlb'.out
      have hcl : c < (jn a b c).length := by omega
      have hkl := idx_lt (b := b) (c := c) (by omega)
      have hy := getD_at (l := b) (i := c) (by omega)
      obtain ⟨gb, ob', rfl, cb0⟩ := rb'.out c _ hy
      have cb1 := (hB.cell (p := ⟨gb, ob' + c, none⟩) (cell_lt cb0)).trans cb0
      have KI := hide' (indexP n b (b.getD c 0) _ wr.drew (rbH.out.below hB.drew (Nat.le_refl _)) hlb'.out hn (List.mem_of_getElem? hy))
      have cell : ∀ i, i < n → wr.cell? ⟨g, i, none⟩ = some (.int .i64 (((jn a b c).getD i 0 : Nat) : Int)) := fun i hi => by
        rw [hrow.cellAt i (by omega)]
        simp only [cellsI, ints, List.map_map, List.getElem?_map, getD_at (show i < (jn a b c).length by omega)]; rfl
      have cu := cell c hlt
      have ck := cell (b.idxOf (b.getD c 0)) (by omega)
      have hrd : wr.drew.ownsRow w1.heap.size 3 1 (.slice (some ⟨g, 0, none⟩) n cap) n (cellsI (ints (jn a b c))) := hrow
      have KR := hide' (relabelP w1.heap.size g cap n (jn a b c) ((jn a b c).getD c 0) ((jn a b c).getD (b.idxOf (b.getD c 0)) 0) wr.drew hrd hjl hn)
      have hkn : b.idxOf (b.getD c 0) < n := by omega
      have hJ : Hid (jn a b (c + 1) = relab (jn a b c) ((jn a b c).getD c 0) ((jn a b c).getD (b.idxOf (b.getD c 0)) 0)) := rfl
      clear cell hrow hrd hjl hcl hkl hy cb0 hbl
      generalize (jn a b c).getD (b.idxOf (b.getD c 0)) 0 = t at *
      generalize (jn a b c).getD c 0 = u at *
      generalize b.idxOf (b.getD c 0) = k at *
      generalize b.getD c 0 = y at *
      go_wp2
      go_region_with (first | (go_at_call 50; refine KI.out.mono ?_; rintro e w3 ⟨rfl, rfl⟩) | (go_at_call 49; refine KR.out.mono ?_; rintro e w4 ⟨rfl, hro, hbo⟩))
      all_goals go_wp2
      all_goals exact ⟨⟨c + 1, by omega, by go_num, by rw [hJ.out]; exact hro, hB.drew.trans (hbo.mono hg)⟩, by simp [intOf]; omega⟩
    · obtain rfl : c = n := by omega
      have hR := RowI.of_owns hrow
      clear hrow
      go_wp2_with (go_at_call 5; refine (KO.out _ _ hR).mono ?_; rintro e w3 ⟨g3, rfl, hown3, hb3⟩)
      exact bodyPost_ret (v := .tuple #[.slice (some ⟨g3, 0, none⟩) c c, .int .i64 0]) (by simp [results, Try.results32, go_sem]) rfl ⟨g3, rfl, owns_less hown3 hB.size, hB.trans (hb3.mono hB.size)⟩
end Go.Proofs.Ytagkopmegfmhaaa
