/- wakes answers true. -/
import Derived.Test.YtagkopmegfmhaaaPOf
import Derived.Test.YtagkopmegfmhaaaPEnds
namespace Go.Proofs.Ytagkopmegfmhaaa
open Go.RowKit
set_option maxRecDepth 100000 in
set_option maxHeartbeats 2000000 in
theorem keepInts (la lb : List Int) (va vb : Value) (w : World) (ha : RowI w va la) (hb : RowI w vb lb) (hn : la.length ≤ 1000000) (hm : lb.length ≤ 1000000) :
    Calls Try.prog 6 #[va, vb] w fun e w' => e = .returned (.bool (decide (la = lb))) ∧ Below w.heap.size w w' := by
  obtain ⟨oa, ca, rfl, _, hca⟩ := ha
  obtain ⟨ob, cb, rfl, _, hcb⟩ := hb
  by_cases hl : la.length = lb.length
  · have hca' := hide' hca
    have hcb' := hide' hcb
    clear hca hcb
    go_enter Try.func6, Try.ntmps6
    go_wp2
    go_loopw [5] (fun k wr => Below w.heap.size w wr ∧ ∃ (c : Nat), c ≤ la.length ∧ k = .int .i64 c ∧ Hid (la.take c = lb.take c)) (fun k _ => ((la.length : Int) - intOf k).toNat)
    case atStart => exact ⟨Below.refl _ _, 0, Nat.zero_le _, rfl, by show _ = _; simp⟩
    case round =>
      obtain ⟨hB, c, hc, rfl, hE⟩ := hrel
      by_cases hlt : c < la.length
      · obtain ⟨x, hx⟩ : ∃ x, la[c]? = some x := ⟨_, List.getElem?_eq_getElem hlt⟩
        obtain ⟨y, hy⟩ : ∃ y, lb[c]? = some y := ⟨_, List.getElem?_eq_getElem (by omega)⟩
        obtain ⟨ga, o1, rfl, c1'⟩ := hca'.out c x hx
        obtain ⟨gb, o2, rfl, c2'⟩ := hcb'.out c y hy
        have c1 := (hB.cell (p := ⟨ga, o1 + c, none⟩) (cell_lt c1')).trans c1'
        have c2 := (hB.cell (p := ⟨gb, o2 + c, none⟩) (cell_lt c2')).trans c2'
        clear c1' c2'
        have hx' := hide' hx
        have hy' := hide' hy
        have hltb : c < lb.length := by omega
        by_cases hxy : x = y
        · subst hxy
          clear hx hy
          go_wp2
          go_region
          go_wp2
          exact ⟨⟨hB.drew, c + 1, by omega, by go_num, by show _ = _; rw [List.take_add_one, List.take_add_one, hE.out, hx'.out, hy'.out]⟩, by simp [intOf]; omega⟩
        · have hd : (x != y) = true := by simpa using hxy
          clear hx hy
          go_wp2
          go_region
          go_wp2
          go_ret
          exact ⟨ret_bool (by rw [eq_comm]; simp only [decide_eq_false_iff_not]; intro e; subst e; rw [hx'.out] at hy'; exact hxy (Option.some.inj hy'.out)), hB.drew⟩
      · obtain rfl : c = la.length := by omega
        have e : Hid (la = lb) := by
          show _ = _
          have := hE.out
          rwa [List.take_length, hl, List.take_length] at this
        clear hE hca' hcb'
        go_wp2
        go_ret
        exact ⟨ret_bool (by simp [e.out]), hB⟩
  · have hd : ((la.length : Int) != (lb.length : Int)) = true := by rw [bne_iff_ne]; omega
    clear hca hcb
    go_enter Try.func6, Try.ntmps6
    go_wp2
    go_ret
    exact ⟨ret_bool (by rw [eq_comm]; simp only [decide_eq_false_iff_not]; intro e; exact hl (by rw [e])), Below.refl _ _⟩
theorem pat4 : pat [7, -3, 7, 9] = [0, 1, 0, 2] := by decide
theorem ways4 : ways 4 0 = 15 := by decide +kernel
set_option maxRecDepth 100000 in
set_option maxHeartbeats 400000 in
theorem sizeT (l : List Nat) (v : Value) (w : World) (hr : RowI w v (ints l)) (hn : l.length ≤ 25) (hl : Leg 0 l) :
    Calls Try.prog 25 #[v] w fun e w' => e = .returned (.int .i64 (blks 0 l)) ∧ w' = w := by
  have KL := hide' (legalT l v w hr hn hl)
  have hb := blks_leg hl
  have KB := hide' (blocksIn l v w hr (by omega) (fun z hz => by have := lt_blks (b := 0) hz; omega))
  obtain ⟨oa, cap, rfl, _, _⟩ := hr
  go_enter Try.func25, Try.ntmps25
  go_wp2_with (first | (go_at_call 23; refine KL.out.mono ?_; rintro e w1 ⟨rfl, rfl⟩) | (go_at_call 46; refine KB.out.mono ?_; rintro e w1 ⟨rfl, rfl⟩))
  go_ret
  exact ⟨rfl, rfl⟩
theorem row4 (w : World) (a b c d : Int) : RowI (w.alloc (.cells #[.int .i64 a, .int .i64 b, .int .i64 c, .int .i64 d] 3)) (.slice (some ⟨w.heap.size, 0, none⟩) 4 4) [a, b, c, d] := by
  exact RowI.of_owns (n₀ := w.heap.size) (l := [a, b, c, d]) (World.ownsRow_lit w #[.int .i64 a, .int .i64 b, .int .i64 c, .int .i64 d] 4 (Nat.le_refl _) (by decide) rfl)
set_option maxRecDepth 100000 in
set_option maxHeartbeats 1000000 in
theorem wakes (w : World) : Calls Try.prog 11 #[] w fun e w' => e = .returned (.bool true) ∧ Below w.heap.size w w' := by
  have KO : Hid (∀ W v, RowI W v [7, -3, 7, 9] → Calls Try.prog 5 #[v] W fun e w' => ∃ g, e = .returned (.tuple #[.slice (some ⟨g, 0, none⟩) 4 4, .int .i64 0]) ∧ w'.ownsRow W.heap.size 3 1 (.slice (some ⟨g, 0, none⟩) 4 4) 4 (cellsI (ints [0, 1, 0, 2])) ∧ Below W.heap.size W w') := fun W v hr => by
    have := ofP [7, -3, 7, 9] v W hr (by decide) (by decide)
    rwa [pat4] at this
  have KB : Hid (∀ W, Calls Try.prog 13 #[.int .i64 4] W fun e w' => e = .returned (.tuple #[.int .u64 15, .int .i64 0]) ∧ Below W.heap.size W w') := fun W => by
    have := bellP 4 (by decide) W
    rwa [ways4] at this
  have hr := row4 w 7 (-3) 7 9
  go_enter Try.func11, Try.ntmps11
  have hd : decide (([0, 1, 0, 2] : List Int) = [0, 1, 0, 2]) = true := by decide
  have KI : Hid (∀ v1 v2 W, RowI W v1 [0, 1, 0, 2] → RowI W v2 [0, 1, 0, 2] → Calls Try.prog 6 #[v1, v2] W fun e w' => e = .returned (.bool true) ∧ Below W.heap.size W w') := fun v1 v2 W r1 r2 => by
    have := keepInts _ _ v1 v2 W r1 r2 (by decide) (by decide)
    rwa [hd] at this
  have KL : Hid (∀ v W, RowI W v (ints [0, 1, 0, 2]) → Calls Try.prog 23 #[v] W fun e w' => e = .returned (.bool true) ∧ w' = W) := fun v W r => legalT _ v W r (by decide) (by simp [Leg])
  have KZ : Hid (∀ v W, RowI W v (ints [0, 1, 0, 2]) → Calls Try.prog 25 #[v] W fun e w' => e = .returned (.int .i64 3) ∧ w' = W) := fun v W r => sizeT _ v W r (by decide) (by simp [Leg])
  clear hd
  go_wp2_with (first | (go_at_call 5; refine (KO.out _ _ hr).mono ?_; rintro e w1 ⟨g, rfl, hrow, hb1⟩) | (go_at_call 13; refine (KB.out _).mono ?_; rintro e w2 ⟨rfl, hb2⟩; have R1 := ((RowI.of_owns hrow).below hb2 (Nat.le_refl _)).below ((Below.refl _ w2).alloc (Nat.le_refl _) (.cells #[.int .i64 0, .int .i64 1, .int .i64 0, .int .i64 2] 3)) (Nat.le_refl _); have R2 := row4 w2 0 1 0 2) | (go_at_call 6; refine (KI.out _ _ _ R1 R2).mono ?_; rintro e w3 ⟨rfl, hb3⟩; have R3 := R1.below hb3 (Nat.le_refl _)) | (go_at_call 23; refine (KL.out _ _ R3).mono ?_; rintro e w4 ⟨rfl, rfl⟩) | (go_at_call 25; refine (KZ.out _ _ R3).mono ?_; rintro e w4 ⟨rfl, rfl⟩))
  go_ret
  have z1 := hb1.size
  have z2 := hb2.size
  simp at z1
  exact ⟨rfl, (((((Below.refl _ w).alloc (Nat.le_refl _) _).trans (hb1.mono (by simp))).trans (hb2.mono (by omega))).alloc (by omega) _).trans (hb3.mono (by simp; omega))⟩
end Go.Proofs.Ytagkopmegfmhaaa
