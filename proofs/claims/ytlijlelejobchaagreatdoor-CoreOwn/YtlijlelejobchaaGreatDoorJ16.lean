/- Holds, Broken, wakes: what they answer. -/
import Derived.Test.YtlijlelejobchaaGreatDoorJ15
import Derived.Laws.EntriesVeiled
namespace Go.Proofs.YtlijlelejobchaaGreatDoor
open Go.RowKit
set_option maxHeartbeats 1000000 in
theorem mApart (k : Int) (m u o : Nat) (w : World) : Calls Tryz.prog 113 #[cv k m u o] w fun e w' => e = .returned (.bool (decide ((m : Int) ≤ 1))) ∧ Below w.heap.size w w' := by
  unfold cv
  have hB := hide' ((Below.refl _ w).alloc (Nat.le_refl _) (.cells #[.int .i64 k, .int .i64 (m : Int), .int .i64 (u : Int), .int .i64 (o : Int)] 153))
  go_enter Tryz.func113, Tryz.ntmps113
  go_wp2
  go_ret
  exact ⟨rfl, hB.out⟩
set_option maxHeartbeats 1000000 in
theorem mSame (k : Int) (m u o : Nat) (w : World) : Calls Tryz.prog 114 #[cv k m u o] w fun e w' => e = .returned (.bool (decide ((u : Int) ≤ 1))) ∧ Below w.heap.size w w' := by
  unfold cv
  have hB := hide' ((Below.refl _ w).alloc (Nat.le_refl _) (.cells #[.int .i64 k, .int .i64 (m : Int), .int .i64 (u : Int), .int .i64 (o : Int)] 153))
  go_enter Tryz.func114, Tryz.ntmps114
  go_wp2
  go_ret
  exact ⟨rfl, hB.out⟩
set_option maxHeartbeats 1000000 in
theorem mMost (k : Int) (m u o : Nat) (w : World) : Calls Tryz.prog 115 #[cv k m u o] w fun e w' => e = .returned (.bool (decide ((m : Int) ≤ k))) ∧ Below w.heap.size w w' := by
  unfold cv
  have hB := hide' ((Below.refl _ w).alloc (Nat.le_refl _) (.cells #[.int .i64 k, .int .i64 (m : Int), .int .i64 (u : Int), .int .i64 (o : Int)] 153))
  go_enter Tryz.func115, Tryz.ntmps115
  go_wp2
  go_ret
  exact ⟨rfl, hB.out⟩
set_option maxHeartbeats 1000000 in
theorem mFew (k : Int) (m u o : Nat) (w : World) : Calls Tryz.prog 116 #[cv k m u o] w fun e w' => e = .returned (.bool (decide ((u : Int) ≤ k))) ∧ Below w.heap.size w w' := by
  unfold cv
  have hB := hide' ((Below.refl _ w).alloc (Nat.le_refl _) (.cells #[.int .i64 k, .int .i64 (m : Int), .int .i64 (u : Int), .int .i64 (o : Int)] 153))
  go_enter Tryz.func116, Tryz.ntmps116
  go_wp2
  go_ret
  exact ⟨rfl, hB.out⟩
set_option maxHeartbeats 1000000 in
theorem mMany (k : Int) (m u o : Nat) (hu : u ≤ 1000000) (ho : o ≤ 1000000) (w : World) : Calls Tryz.prog 117 #[cv k m u o] w fun e w' => e = .returned (.bool (decide (k ≤ (u : Int) + (o : Int)))) ∧ Below w.heap.size w w' := by
  unfold cv
  have hB := hide' ((Below.refl _ w).alloc (Nat.le_refl _) (.cells #[.int .i64 k, .int .i64 (m : Int), .int .i64 (u : Int), .int .i64 (o : Int)] 153))
  have hw : IntKind.i64.wrap ((u : Int) + (o : Int)) = (u : Int) + (o : Int) := by
    rw [IntKind.wrap_i64]
    omega
  go_enter Tryz.func117, Tryz.ntmps117
  go_wp2
  go_ret
  exact ⟨rfl, hB.out⟩
def fnv (f : Nat) : Value := .func (.func f) #[] #[]
set_option maxRecDepth 100000 in
set_option maxHeartbeats 1000000 in
theorem meanings (w : World) : Calls Tryz.prog 105 #[] w fun e w' => e = .returned (.agg #[.nilFunc, fnv 113, fnv 114, fnv 115, fnv 116, fnv 117]) ∧ Below w.heap.size w w' := by
  have hB := hide' ((Below.refl _ w).alloc (Nat.le_refl _) (.cells #[.nilFunc, fnv 113, fnv 114, fnv 115, fnv 116, fnv 117] 150))
  go_enter Tryz.func105, Tryz.ntmps105
  go_wp2
  refine bodyPost_ret (v := .agg #[.nilFunc, fnv 113, fnv 114, fnv 115, fnv 116, fnv 117]) (by simp [results, Tryz.results105, go_sem, fnv]) rfl ?_
  exact ⟨rfl, hB.out⟩
theorem idx1 (W : World) : (Instr.index 150 (.agg #[.nilFunc, .func (.func 113) #[] #[], .func (.func 114) #[] #[], .func (.func 115) #[] #[], .func (.func 116) #[] #[], .func (.func 117) #[] #[]]) (.int .i64 1)).run Tryz.prog W = .ok (.func (.func 113) #[] #[]) W := by kernel_rfl
theorem idx2 (W : World) : (Instr.index 150 (.agg #[.nilFunc, .func (.func 113) #[] #[], .func (.func 114) #[] #[], .func (.func 115) #[] #[], .func (.func 116) #[] #[], .func (.func 117) #[] #[]]) (.int .i64 2)).run Tryz.prog W = .ok (.func (.func 114) #[] #[]) W := by kernel_rfl
theorem idx3 (W : World) : (Instr.index 150 (.agg #[.nilFunc, .func (.func 113) #[] #[], .func (.func 114) #[] #[], .func (.func 115) #[] #[], .func (.func 116) #[] #[], .func (.func 117) #[] #[]]) (.int .i64 3)).run Tryz.prog W = .ok (.func (.func 115) #[] #[]) W := by kernel_rfl
theorem idx4 (W : World) : (Instr.index 150 (.agg #[.nilFunc, .func (.func 113) #[] #[], .func (.func 114) #[] #[], .func (.func 115) #[] #[], .func (.func 116) #[] #[], .func (.func 117) #[] #[]]) (.int .i64 4)).run Tryz.prog W = .ok (.func (.func 116) #[] #[]) W := by kernel_rfl
theorem idx5 (W : World) : (Instr.index 150 (.agg #[.nilFunc, .func (.func 113) #[] #[], .func (.func 114) #[] #[], .func (.func 115) #[] #[], .func (.func 116) #[] #[], .func (.func 117) #[] #[]]) (.int .i64 5)).run Tryz.prog W = .ok (.func (.func 117) #[] #[]) W := by kernel_rfl
set_option maxRecDepth 100000 in
set_option maxHeartbeats 4000000 in
/-- The meaning of a kind, called. -/
theorem earlyF (r : Rl) (n : Int) (sv lv : Value) (L : List Int) (w : World) (hs : RowI w sv r.steps) (hl : RowI w lv L) (hm : r.steps.length ≤ 1000) :
    Calls Tryz.prog 92 #[rv r sv, .int .i64 n, lv] w fun e w' => e = .returned (.bool (early r n L)) ∧ Below w.heap.size w w' := by
  have KC : Hid (∀ W, Below w.heap.size w W → Calls Tryz.prog 65 #[.int .i64 n, rv r sv] W fun e w' => e = .returned (.int .i64 (erC (chk n r))) ∧ Below W.heap.size W w') := fun W hW => checkF n r sv W (hs.below hW (Nat.le_refl _)) (by omega)
  have hS0 := hide' hs
  have hL0 := hide' hl
  obtain ⟨oa, ca, rfl, _, _⟩ := hs
  obtain ⟨ob, cb, rfl, _, _⟩ := hl
  unfold rv at KC ⊢
  have hB : Hid (Below w.heap.size w (w.alloc (.cells #[.int .i64 r.kind, .int .i64 r.k, .slice oa r.steps.length ca] 44))) := (Below.refl _ w).alloc (Nat.le_refl _) _
  cases hk : chk n r with
  | false =>
    have hR : Hid (early r n L = false) := by show _ = _; unfold early; rw [hk]; rfl
    rw [hk] at KC
    have KC' : Hid (∀ W, Below w.heap.size w W → Calls Tryz.prog 65 #[.int .i64 n, .agg #[.int .i64 r.kind, .int .i64 r.k, .slice oa r.steps.length ca]] W fun e w' => e = .returned (.int .i64 1) ∧ Below W.heap.size W w') := KC
    clear KC hS0 hL0 hk
    go_enter Tryz.func92, Tryz.ntmps92
    go_wp2_with (go_at_call 65; refine (KC'.out _ hB.out).mono ?_; rintro e w1 ⟨rfl, hb1⟩)
    go_ret
    exact ⟨ret_bool hR.out.symm, hB.out.trans (hb1.mono hB.out.size)⟩
  | true =>
    rw [hk] at KC
    have KC' : Hid (∀ W, Below w.heap.size w W → Calls Tryz.prog 65 #[.int .i64 n, .agg #[.int .i64 r.kind, .int .i64 r.k, .slice oa r.steps.length ca]] W fun e w' => e = .returned (.int .i64 0) ∧ Below W.heap.size W w') := KC
    clear KC
    by_cases hln : (L.length : Int) ≤ n
    · have hris : ris n 0 r.steps = true := by
        simp [chk] at hk; exact hk.1.2
      have hnum : numF r.kind r.k r.steps.length = true := by
        simp [chk] at hk; exact hk.2
      obtain ⟨T, hT⟩ := ris_nat hris (Int.le_refl _)
      have hTl : T.length = r.steps.length := by rw [hT, ints_len]
      have hKn : r.kind = 1 ∨ r.kind = 2 ∨ r.kind = 3 ∨ r.kind = 4 ∨ r.kind = 5 := by
        unfold numF at hnum
        by_cases h1 : r.kind = 1 ∨ r.kind = 2
        · omega
        · rw [if_neg h1] at hnum
          by_cases h2 : r.kind = 3 ∨ r.kind = 4
          · omega
          · rw [if_neg h2] at hnum
            by_cases h3 : r.kind = 5
            · omega
            · rw [if_neg h3] at hnum; cases hnum
      have hR : Hid (early r n L = means r.kind r.k (labs L r.steps) (r.steps.length - (labs L r.steps).length)) := by show _ = _; unfold early; rw [hk, decide_eq_true hln]; rfl
      have KN : Hid (∀ W, Below w.heap.size w W → Calls Tryz.prog 106 #[.agg #[.int .i64 r.kind, .int .i64 r.k, .slice oa r.steps.length ca], .slice ob L.length cb] W fun e w' => e = .returned (cv r.k (mst (labs L r.steps)) (unl (labs L r.steps)) (r.steps.length - (labs L r.steps).length)) ∧ Below W.heap.size W w') := fun W hW => by
        have h1 := hS0.out.below hW (Nat.le_refl _)
        have h2 := hL0.out.below hW (Nat.le_refl _)
        rw [hT] at hris h1 hm ⊢
        rw [ints_len] at hm h1 ⊢
        exact countF r.kind r.k T L _ _ W h1 h2 (rise_of hris) (by omega)
      have KM := hide' fun W => meanings W
      have hun : unl (labs L r.steps) ≤ 1000000 := Nat.le_trans (unl_le _) (Nat.le_trans (labs_len _ _) (by omega))
      have hop : r.steps.length - (labs L r.steps).length ≤ 1000000 := by omega
      unfold means at hR
      unfold fnv at KM
      generalize mst (labs L r.steps) = mm at *
      generalize unl (labs L r.steps) = uu at *
      generalize r.steps.length - (labs L r.steps).length = oo at *
      have hln' : ¬ n < (L.length : Int) := by omega
      clear hris hnum hS0 hL0 hk hT hTl hln
      generalize r.steps.length = q at *
      generalize r.k = kk at *
      generalize r.kind = kd at *
      rcases hKn with rfl | rfl | rfl | rfl | rfl
      · have KF := hide' fun W => mApart kk mm uu oo W
        go_enter Tryz.func92, Tryz.ntmps92
        go_wp2_with (go_at_call 65; refine (KC'.out _ hB.out).mono ?_; rintro e w1 ⟨rfl, hb1⟩)
        have hb1' := hide' hb1
        have hB1 : Hid (Below w.heap.size w w1) := hB.out.trans (hb1.mono hB.out.size)
        have hbox : Hid (∀ V, Below w1.heap.size w1 V → V.cell? ⟨w.heap.size, 0, none⟩ = some (.int .i64 1) ∧ V.cell? ⟨w.heap.size, 1, none⟩ = some (.int .i64 kk) ∧ V.cell? ⟨w.heap.size, 2, none⟩ = some (.slice oa q ca)) := fun V hV => by
          have e : V.heap[w.heap.size]? = some (.cells #[.int .i64 1, .int .i64 kk, .slice oa q ca] 44) := by
            rw [hV.block _ (Nat.lt_of_lt_of_le (by simp) hb1'.out.size), hb1'.out.block _ (by simp)]
            exact heap_new w _
          simp [World.cell?, e]
        have hS := hide' (hbox.out w1.drew (Below.refl _ _).drew).1
        have hix := idx1
        clear hb1 KC'
        go_region_held3 (fun V => V.cell? ⟨w.heap.size, 0, none⟩ = some (.int .i64 1)) (first | (exact hS.out) | (exact (hbox.out _ hb2.out).1)) (first | (go_at_call 105; refine (KM.out _).mono ?_; rintro e w2 ⟨rfl, hb2'⟩; have hb2 : Hid (Below w1.heap.size w1 w2) := ((Below.refl _ _).drew.trans hb2'); clear hb2'))
        all_goals
          obtain ⟨x0, x1, x2⟩ := hbox.out _ hb2.out
          have hB2 : Hid (Below w.heap.size w w2) := hB1.out.trans (hb2.out.mono hB1.out.size)
          clear hS hbox hb1'
          go_wp2_with (first | (go_at_call 106; refine (KN.out _ hB2.out).mono ?_; rintro e w3 ⟨rfl, hb3⟩) | (go_at_call 113; refine (KF.out _).mono ?_; rintro e w4 ⟨rfl, hb4⟩))
          go_ret
          exact ⟨ret_bool (by rw [hR.out]; simp; try omega), (hB2.out.trans (hb3.mono hB2.out.size)).trans (hb4.mono (Nat.le_trans hB2.out.size hb3.size))⟩
      · have KF := hide' fun W => mSame kk mm uu oo W
        go_enter Tryz.func92, Tryz.ntmps92
        go_wp2_with (go_at_call 65; refine (KC'.out _ hB.out).mono ?_; rintro e w1 ⟨rfl, hb1⟩)
        have hb1' := hide' hb1
        have hB1 : Hid (Below w.heap.size w w1) := hB.out.trans (hb1.mono hB.out.size)
        have hbox : Hid (∀ V, Below w1.heap.size w1 V → V.cell? ⟨w.heap.size, 0, none⟩ = some (.int .i64 2) ∧ V.cell? ⟨w.heap.size, 1, none⟩ = some (.int .i64 kk) ∧ V.cell? ⟨w.heap.size, 2, none⟩ = some (.slice oa q ca)) := fun V hV => by
          have e : V.heap[w.heap.size]? = some (.cells #[.int .i64 2, .int .i64 kk, .slice oa q ca] 44) := by
            rw [hV.block _ (Nat.lt_of_lt_of_le (by simp) hb1'.out.size), hb1'.out.block _ (by simp)]
            exact heap_new w _
          simp [World.cell?, e]
        have hS := hide' (hbox.out w1.drew (Below.refl _ _).drew).1
        have hix := idx2
        clear hb1 KC'
        go_region_held3 (fun V => V.cell? ⟨w.heap.size, 0, none⟩ = some (.int .i64 2)) (first | (exact hS.out) | (exact (hbox.out _ hb2.out).1)) (first | (go_at_call 105; refine (KM.out _).mono ?_; rintro e w2 ⟨rfl, hb2'⟩; have hb2 : Hid (Below w1.heap.size w1 w2) := ((Below.refl _ _).drew.trans hb2'); clear hb2'))
        all_goals
          obtain ⟨x0, x1, x2⟩ := hbox.out _ hb2.out
          have hB2 : Hid (Below w.heap.size w w2) := hB1.out.trans (hb2.out.mono hB1.out.size)
          clear hS hbox hb1'
          go_wp2_with (first | (go_at_call 106; refine (KN.out _ hB2.out).mono ?_; rintro e w3 ⟨rfl, hb3⟩) | (go_at_call 114; refine (KF.out _).mono ?_; rintro e w4 ⟨rfl, hb4⟩))
          go_ret
          exact ⟨ret_bool (by rw [hR.out]; simp; try omega), (hB2.out.trans (hb3.mono hB2.out.size)).trans (hb4.mono (Nat.le_trans hB2.out.size hb3.size))⟩
      · have KF := hide' fun W => mMost kk mm uu oo W
        go_enter Tryz.func92, Tryz.ntmps92
        go_wp2_with (go_at_call 65; refine (KC'.out _ hB.out).mono ?_; rintro e w1 ⟨rfl, hb1⟩)
        have hb1' := hide' hb1
        have hB1 : Hid (Below w.heap.size w w1) := hB.out.trans (hb1.mono hB.out.size)
        have hbox : Hid (∀ V, Below w1.heap.size w1 V → V.cell? ⟨w.heap.size, 0, none⟩ = some (.int .i64 3) ∧ V.cell? ⟨w.heap.size, 1, none⟩ = some (.int .i64 kk) ∧ V.cell? ⟨w.heap.size, 2, none⟩ = some (.slice oa q ca)) := fun V hV => by
          have e : V.heap[w.heap.size]? = some (.cells #[.int .i64 3, .int .i64 kk, .slice oa q ca] 44) := by
            rw [hV.block _ (Nat.lt_of_lt_of_le (by simp) hb1'.out.size), hb1'.out.block _ (by simp)]
            exact heap_new w _
          simp [World.cell?, e]
        have hS := hide' (hbox.out w1.drew (Below.refl _ _).drew).1
        have hix := idx3
        clear hb1 KC'
        go_region_held3 (fun V => V.cell? ⟨w.heap.size, 0, none⟩ = some (.int .i64 3)) (first | (exact hS.out) | (exact (hbox.out _ hb2.out).1)) (first | (go_at_call 105; refine (KM.out _).mono ?_; rintro e w2 ⟨rfl, hb2'⟩; have hb2 : Hid (Below w1.heap.size w1 w2) := ((Below.refl _ _).drew.trans hb2'); clear hb2'))
        all_goals
          obtain ⟨x0, x1, x2⟩ := hbox.out _ hb2.out
          have hB2 : Hid (Below w.heap.size w w2) := hB1.out.trans (hb2.out.mono hB1.out.size)
          clear hS hbox hb1'
          go_wp2_with (first | (go_at_call 106; refine (KN.out _ hB2.out).mono ?_; rintro e w3 ⟨rfl, hb3⟩) | (go_at_call 115; refine (KF.out _).mono ?_; rintro e w4 ⟨rfl, hb4⟩))
          go_ret
          exact ⟨ret_bool (by rw [hR.out]; simp; try omega), (hB2.out.trans (hb3.mono hB2.out.size)).trans (hb4.mono (Nat.le_trans hB2.out.size hb3.size))⟩
      · have KF := hide' fun W => mFew kk mm uu oo W
        go_enter Tryz.func92, Tryz.ntmps92
        go_wp2_with (go_at_call 65; refine (KC'.out _ hB.out).mono ?_; rintro e w1 ⟨rfl, hb1⟩)
        have hb1' := hide' hb1
        have hB1 : Hid (Below w.heap.size w w1) := hB.out.trans (hb1.mono hB.out.size)
        have hbox : Hid (∀ V, Below w1.heap.size w1 V → V.cell? ⟨w.heap.size, 0, none⟩ = some (.int .i64 4) ∧ V.cell? ⟨w.heap.size, 1, none⟩ = some (.int .i64 kk) ∧ V.cell? ⟨w.heap.size, 2, none⟩ = some (.slice oa q ca)) := fun V hV => by
          have e : V.heap[w.heap.size]? = some (.cells #[.int .i64 4, .int .i64 kk, .slice oa q ca] 44) := by
            rw [hV.block _ (Nat.lt_of_lt_of_le (by simp) hb1'.out.size), hb1'.out.block _ (by simp)]
            exact heap_new w _
          simp [World.cell?, e]
        have hS := hide' (hbox.out w1.drew (Below.refl _ _).drew).1
        have hix := idx4
        clear hb1 KC'
        go_region_held3 (fun V => V.cell? ⟨w.heap.size, 0, none⟩ = some (.int .i64 4)) (first | (exact hS.out) | (exact (hbox.out _ hb2.out).1)) (first | (go_at_call 105; refine (KM.out _).mono ?_; rintro e w2 ⟨rfl, hb2'⟩; have hb2 : Hid (Below w1.heap.size w1 w2) := ((Below.refl _ _).drew.trans hb2'); clear hb2'))
        all_goals
          obtain ⟨x0, x1, x2⟩ := hbox.out _ hb2.out
          have hB2 : Hid (Below w.heap.size w w2) := hB1.out.trans (hb2.out.mono hB1.out.size)
          clear hS hbox hb1'
          go_wp2_with (first | (go_at_call 106; refine (KN.out _ hB2.out).mono ?_; rintro e w3 ⟨rfl, hb3⟩) | (go_at_call 116; refine (KF.out _).mono ?_; rintro e w4 ⟨rfl, hb4⟩))
          go_ret
          exact ⟨ret_bool (by rw [hR.out]; simp; try omega), (hB2.out.trans (hb3.mono hB2.out.size)).trans (hb4.mono (Nat.le_trans hB2.out.size hb3.size))⟩
      · have KF := hide' fun W => mMany kk mm uu oo hun hop W
        go_enter Tryz.func92, Tryz.ntmps92
        go_wp2_with (go_at_call 65; refine (KC'.out _ hB.out).mono ?_; rintro e w1 ⟨rfl, hb1⟩)
        have hb1' := hide' hb1
        have hB1 : Hid (Below w.heap.size w w1) := hB.out.trans (hb1.mono hB.out.size)
        have hbox : Hid (∀ V, Below w1.heap.size w1 V → V.cell? ⟨w.heap.size, 0, none⟩ = some (.int .i64 5) ∧ V.cell? ⟨w.heap.size, 1, none⟩ = some (.int .i64 kk) ∧ V.cell? ⟨w.heap.size, 2, none⟩ = some (.slice oa q ca)) := fun V hV => by
          have e : V.heap[w.heap.size]? = some (.cells #[.int .i64 5, .int .i64 kk, .slice oa q ca] 44) := by
            rw [hV.block _ (Nat.lt_of_lt_of_le (by simp) hb1'.out.size), hb1'.out.block _ (by simp)]
            exact heap_new w _
          simp [World.cell?, e]
        have hS := hide' (hbox.out w1.drew (Below.refl _ _).drew).1
        have hix := idx5
        clear hb1 KC'
        go_region_held3 (fun V => V.cell? ⟨w.heap.size, 0, none⟩ = some (.int .i64 5)) (first | (exact hS.out) | (exact (hbox.out _ hb2.out).1)) (first | (go_at_call 105; refine (KM.out _).mono ?_; rintro e w2 ⟨rfl, hb2'⟩; have hb2 : Hid (Below w1.heap.size w1 w2) := ((Below.refl _ _).drew.trans hb2'); clear hb2'))
        all_goals
          obtain ⟨x0, x1, x2⟩ := hbox.out _ hb2.out
          have hB2 : Hid (Below w.heap.size w w2) := hB1.out.trans (hb2.out.mono hB1.out.size)
          clear hS hbox hb1'
          go_wp2_with (first | (go_at_call 106; refine (KN.out _ hB2.out).mono ?_; rintro e w3 ⟨rfl, hb3⟩) | (go_at_call 117; refine (KF.out _).mono ?_; rintro e w4 ⟨rfl, hb4⟩))
          go_ret
          exact ⟨ret_bool (by rw [hR.out]; simp; try omega), (hB2.out.trans (hb3.mono hB2.out.size)).trans (hb4.mono (Nat.le_trans hB2.out.size hb3.size))⟩
    · have hR : Hid (early r n L = false) := by show _ = _; unfold early; rw [hk, decide_eq_false hln]; rfl
      have hln' : n < (L.length : Int) := by omega
      clear hS0 hL0 hk hln
      go_enter Tryz.func92, Tryz.ntmps92
      go_wp2_with (go_at_call 65; refine (KC'.out _ hB.out).mono ?_; rintro e w1 ⟨rfl, hb1⟩)
      go_ret
      exact ⟨ret_bool hR.out.symm, hB.out.trans (hb1.mono hB.out.size)⟩
end Go.Proofs.YtlijlelejobchaaGreatDoor
namespace Go.Proofs.YtlijlelejobchaaGreatDoor
open Go.RowKit
set_option maxRecDepth 100000 in
set_option maxHeartbeats 1000000 in
theorem holdsF (r : Rl) (sv lv : Value) (L : List Int) (w : World) (hs : RowI w sv r.steps) (hl : RowI w lv L) (hm : r.steps.length ≤ 1000) :
    Calls Tryz.prog 66 #[rv r sv, lv] w fun e w' => e = .returned (.bool (holds r L)) ∧ Below w.heap.size w w' := by
  have KE : Hid (∀ W, Below w.heap.size w W → Calls Tryz.prog 92 #[rv r sv, .int .i64 L.length, lv] W fun e w' => e = .returned (.bool (holds r L)) ∧ Below W.heap.size W w') := fun W hW => earlyF r L.length sv lv L W (hs.below hW (Nat.le_refl _)) (hl.below hW (Nat.le_refl _)) hm
  obtain ⟨oa, ca, rfl, _, _⟩ := hs
  obtain ⟨ob, cb, rfl, _, _⟩ := hl
  unfold rv at KE ⊢
  have hB : Hid (Below w.heap.size w (w.alloc (.cells #[.int .i64 r.kind, .int .i64 r.k, .slice oa r.steps.length ca] 44))) := (Below.refl _ w).alloc (Nat.le_refl _) _
  go_enter Tryz.func66, Tryz.ntmps66
  go_wp2_with (go_at_call 92; refine (KE.out _ hB.out).mono ?_; rintro e w1 ⟨rfl, hb1⟩)
  go_ret
  exact ⟨rfl, hB.out.trans (hb1.mono hB.out.size)⟩
/-- The places, up to c, of the rules that are broken. -/
def brk (R : List Rl) (L : List Int) (c : Nat) : List Nat := (List.range c).filter fun i => match R[i]? with | some r => !holds r L | none => false
theorem brk_all (R : List Rl) (L : List Int) : broken R L = brk R L R.length := rfl
theorem brk_snoc (R : List Rl) (L : List Int) {c : Nat} {r : Rl} (h : R[c]? = some r) : brk R L (c + 1) = brk R L c ++ if holds r L then [] else [c] := by
  unfold brk
  rw [List.range_succ, List.filter_append]
  congr 1
  rw [List.filter_cons, h]
  cases hh : holds r L <;> simp [hh]
theorem brk_len (R : List Rl) (L : List Int) (c : Nat) : (brk R L c).length ≤ c := by
  refine Nat.le_trans (List.length_filter_le _ _) ?_
  simp
set_option maxRecDepth 100000 in
set_option maxHeartbeats 4000000 in
theorem brokenF (R : List Rl) (v lv : Value) (L : List Int) (w : World) (hr : RowR w v R) (hl : RowI w lv L) (hR : R.length ≤ 1000) (hm : ∀ r ∈ R, r.steps.length ≤ 1000) :
    Calls Tryz.prog 34 #[v, lv] w fun e w' => ∃ v', e = .returned v' ∧ w'.ownsRow w.heap.size 3 1 v' (broken R L).length (cellsI (ints (broken R L))) ∧ Below w.heap.size w w' := by
  obtain ⟨i0, hi, hz0, hz1, hz2⟩ := info_parts info3
  have KH : Hid (∀ r sv W, r ∈ R → RowI w sv r.steps → Below w.heap.size w W → Calls Tryz.prog 66 #[rv r sv, lv] W fun e w' => e = .returned (.bool (holds r L)) ∧ Below W.heap.size W w') := fun r sv W hr hs hW => holdsF r sv lv L W (hs.below hW (Nat.le_refl _)) (hl.below hW (Nat.le_refl _)) (hm r hr)
  obtain ⟨oa, cap, rfl, hcap, hc⟩ := hr
  obtain ⟨ob, cb, rfl, _, _⟩ := hl
  have hc' := hide' hc
  clear hc hcap hm
  rw [brk_all]
  go_enter Tryz.func34, Tryz.ntmps34
  go_wp2
  go_loopw [5, 6, 7, 10] (fun v _ _ k wr => ∃ (c : Nat), c ≤ R.length ∧ k = .int .i64 c ∧ Hid (wr.ownsRow w.heap.size 3 1 v (brk R L c).length (cellsI (ints (brk R L c)))) ∧ Hid (Below w.heap.size w wr)) (fun _ _ _ k _ => ((R.length : Int) - intOf k).toNat)
  case atStart => exact ⟨0, Nat.zero_le _, rfl, World.ownsRow_nil _ _ _ _, Below.refl _ _⟩
  case round =>
    obtain ⟨c, hcl, rfl, hO, hB⟩ := hrel
    by_cases hlt : c < R.length
    · obtain ⟨r, hx⟩ : ∃ x, R[c]? = some x := ⟨_, List.getElem?_eq_getElem hlt⟩
      obtain ⟨g, o, sv, rfl, c1', c2', c3', hs⟩ := hc'.out c r hx
      have c1 := (hB.out.cell (p := ⟨g, o + c * 3, none⟩) (cell_lt c1')).trans c1'
      have c2 := (hB.out.cell (p := ⟨g, o + c * 3 + 1, none⟩) (cell_lt c2')).trans c2'
      have c3 := (hB.out.cell (p := ⟨g, o + c * 3 + 2, none⟩) (cell_lt c3')).trans c3'
      have hN := hide' (brk_snoc R L hx)
      have hbl := brk_len R L c
      have hH := hide' (KH.out r sv (wr.alloc (.cells #[.int .i64 r.kind, .int .i64 r.k, sv] 44)) (List.mem_of_getElem? hx) hs (hB.out.alloc hB.out.size _))
      have hB1 : Hid (Below wr.heap.size wr (wr.alloc (.cells #[.int .i64 r.kind, .int .i64 r.k, sv] 44))) := (Below.refl _ wr).alloc (Nat.le_refl _) _
      obtain ⟨os, cs, rfl, _, _⟩ := hs
      unfold rv at hH
      clear KH hc' c1' c2' c3' hx
      generalize r.steps.length = q at *
      generalize r.kind = kd at *
      generalize r.k = kk at *
      cases hh : holds r L with
      | true =>
        rw [hh] at hH
        rw [hh, if_pos rfl, List.append_nil] at hN
        clear hh
        go_wp2_with (go_at_call 66; refine hH.out.mono ?_; rintro e w1 ⟨rfl, hb1⟩)
        have hb2 : Below wr.heap.size wr w1 := hB1.out.trans (hb1.mono hB1.out.size)
        exact ⟨⟨c + 1, by omega, by go_num, by rw [hN.out]; exact own_below hO.out hb2 (Nat.le_refl _), hB.out.trans (hb2.mono hB.out.size)⟩, by simp [intOf]; omega⟩
      | false =>
        rw [hh] at hH
        rw [hh, if_neg (by decide)] at hN
        clear hh
        generalize hql : (brk R L c).length = ql at *
        go_wp2_with (first | (go_at_call 66; refine hH.out.mono ?_; rintro e w1 ⟨rfl, hb1⟩; have hb2 : Hid (Below wr.heap.size wr w1) := hB1.out.trans (hb1.mono hB1.out.size); have hO1 := hide' (own_below hO.out hb2.out (Nat.le_refl _)); clear hb1) | (at_builtin; refine wpList_append_own _ rfl _ _ 23 rfl w.heap.size 3 i0 (.int .i64 0) 1 8 Tryz.underlying23 hi hz0 hz1 hz2 rfl (by decide) _ ql (cellsI (ints (brk R L c))) rfl (hO1.out.alloc _) ⟨w1.heap.size, 0, none⟩ 1 1 [.int .i64 (c : Int)] rfl rfl (World.news_of_block (cs := #[.int .i64 (c : Int)]) (heap_new _ _)) (by simp [Value.oneCell']) (by unfold maxLen; omega) (by omega) (by have := hB.out.size; have := hb2.out.size; simp; omega) ?_; intro v1 w2 hown2 hgrow2 _; have hO2 := hide' hown2; have hG2 := hide' hgrow2; clear hown2 hgrow2))
        have hb3 : Below w.heap.size w w1 := hB.out.trans (hb2.out.mono hB.out.size)
        refine ⟨⟨c + 1, by omega, by go_num, ?_, (hb3.alloc hb3.size _).grown hG2.out (by simp; exact Nat.le_trans hb3.size (Nat.le_succ _)) (fun j ej => own_ge' hO1.out ej)⟩, by simp [intOf]; omega⟩
        rw [hN.out, cellsI_snoc, List.length_append, hql]
        exact hO2.out
    · obtain rfl : c = R.length := by omega
      clear hc' KH
      go_wp2
      go_ret
      exact ⟨_, rfl, hO.out, hB.out⟩
theorem rowL (w : World) (cs : Array Value) (l : List Int) (h : cs.toList = cellsI l) : RowI (w.alloc (.cells cs 3)) (.slice (some ⟨w.heap.size, 0, none⟩) l.length l.length) l := by
  refine ⟨_, _, rfl, ⟨Nat.le_refl _, fun e => by cases e⟩, fun i z hz => ⟨w.heap.size, 0, rfl, ?_⟩⟩
  have : cs[i]? = some (Value.int .i64 z) := by
    rw [← Array.getElem?_toList, h]
    simp [cellsI, hz]
  have e : (w.alloc (.cells cs 3)).heap[w.heap.size]? = some (.cells cs 3) := heap_new w _
  rw [Nat.zero_add, World.cell?]
  show (match (w.alloc (.cells cs 3)).heap[w.heap.size]? with | some (.cells c _ _) => c[i]? | _ => none) = _
  rw [e]
  exact this
end Go.Proofs.YtlijlelejobchaaGreatDoor
