/- The document's unlike, often: what they answer. -/
import Derived.Test.YtmbdnhgmpmnhmaaGreatDoorJ15
import Derived.Laws.EntriesVeiled
namespace Go.Proofs.YtmbdnhgmpmnhmaaGreatDoor
open Go.RowKit
set_option maxHeartbeats 1000000 in
theorem mApart (k : Int) (m u o : Nat) (w : World) : Calls Tryz.prog 126 #[cv k m u o] w fun e w' => e = .returned (.bool (decide ((m : Int) ≤ 1))) ∧ Below w.heap.size w w' := by
  unfold cv
  have hB := hide' ((Below.refl _ w).alloc (Nat.le_refl _) (.cells #[.int .i64 k, .int .i64 (m : Int), .int .i64 (u : Int), .int .i64 (o : Int)] 149))
  go_enter Tryz.func126, Tryz.ntmps126
  go_wp2
  go_ret
  exact ⟨rfl, hB.out⟩
set_option maxHeartbeats 1000000 in
theorem mSame (k : Int) (m u o : Nat) (w : World) : Calls Tryz.prog 127 #[cv k m u o] w fun e w' => e = .returned (.bool (decide ((u : Int) ≤ 1))) ∧ Below w.heap.size w w' := by
  unfold cv
  have hB := hide' ((Below.refl _ w).alloc (Nat.le_refl _) (.cells #[.int .i64 k, .int .i64 (m : Int), .int .i64 (u : Int), .int .i64 (o : Int)] 149))
  go_enter Tryz.func127, Tryz.ntmps127
  go_wp2
  go_ret
  exact ⟨rfl, hB.out⟩
set_option maxHeartbeats 1000000 in
theorem mMost (k : Int) (m u o : Nat) (w : World) : Calls Tryz.prog 128 #[cv k m u o] w fun e w' => e = .returned (.bool (decide ((m : Int) ≤ k))) ∧ Below w.heap.size w w' := by
  unfold cv
  have hB := hide' ((Below.refl _ w).alloc (Nat.le_refl _) (.cells #[.int .i64 k, .int .i64 (m : Int), .int .i64 (u : Int), .int .i64 (o : Int)] 149))
  go_enter Tryz.func128, Tryz.ntmps128
  go_wp2
  go_ret
  exact ⟨rfl, hB.out⟩
set_option maxHeartbeats 1000000 in
theorem mFew (k : Int) (m u o : Nat) (w : World) : Calls Tryz.prog 129 #[cv k m u o] w fun e w' => e = .returned (.bool (decide ((u : Int) ≤ k))) ∧ Below w.heap.size w w' := by
  unfold cv
  have hB := hide' ((Below.refl _ w).alloc (Nat.le_refl _) (.cells #[.int .i64 k, .int .i64 (m : Int), .int .i64 (u : Int), .int .i64 (o : Int)] 149))
  go_enter Tryz.func129, Tryz.ntmps129
  go_wp2
  go_ret
  exact ⟨rfl, hB.out⟩
set_option maxHeartbeats 1000000 in
theorem mMany (k : Int) (m u o : Nat) (hu : u ≤ 1000000) (ho : o ≤ 1000000) (w : World) : Calls Tryz.prog 130 #[cv k m u o] w fun e w' => e = .returned (.bool (decide (k ≤ (u : Int) + (o : Int)))) ∧ Below w.heap.size w w' := by
  unfold cv
  have hB := hide' ((Below.refl _ w).alloc (Nat.le_refl _) (.cells #[.int .i64 k, .int .i64 (m : Int), .int .i64 (u : Int), .int .i64 (o : Int)] 149))
  have hw : IntKind.i64.wrap ((u : Int) + (o : Int)) = (u : Int) + (o : Int) := by
    rw [IntKind.wrap_i64]
    omega
  go_enter Tryz.func130, Tryz.ntmps130
  go_wp2
  go_ret
  exact ⟨rfl, hB.out⟩
def fnv (f : Nat) : Value := .func (.func f) #[] #[]
set_option maxRecDepth 100000 in
set_option maxHeartbeats 1000000 in
theorem meanings (w : World) : Calls Tryz.prog 120 #[] w fun e w' => e = .returned (.agg #[.nilFunc, fnv 126, fnv 127, fnv 128, fnv 129, fnv 130]) ∧ Below w.heap.size w w' := by
  have hB := hide' ((Below.refl _ w).alloc (Nat.le_refl _) (.cells #[.nilFunc, fnv 126, fnv 127, fnv 128, fnv 129, fnv 130] 146))
  go_enter Tryz.func120, Tryz.ntmps120
  go_wp2
  refine bodyPost_ret (v := .agg #[.nilFunc, fnv 126, fnv 127, fnv 128, fnv 129, fnv 130]) (by simp [results, Tryz.results120, go_sem, fnv]) rfl ?_
  exact ⟨rfl, hB.out⟩
theorem idx1 (W : World) : (Instr.index 146 (.agg #[.nilFunc, .func (.func 126) #[] #[], .func (.func 127) #[] #[], .func (.func 128) #[] #[], .func (.func 129) #[] #[], .func (.func 130) #[] #[]]) (.int .i64 1)).run Tryz.prog W = .ok (.func (.func 126) #[] #[]) W := by kernel_rfl
theorem idx2 (W : World) : (Instr.index 146 (.agg #[.nilFunc, .func (.func 126) #[] #[], .func (.func 127) #[] #[], .func (.func 128) #[] #[], .func (.func 129) #[] #[], .func (.func 130) #[] #[]]) (.int .i64 2)).run Tryz.prog W = .ok (.func (.func 127) #[] #[]) W := by kernel_rfl
theorem idx3 (W : World) : (Instr.index 146 (.agg #[.nilFunc, .func (.func 126) #[] #[], .func (.func 127) #[] #[], .func (.func 128) #[] #[], .func (.func 129) #[] #[], .func (.func 130) #[] #[]]) (.int .i64 3)).run Tryz.prog W = .ok (.func (.func 128) #[] #[]) W := by kernel_rfl
theorem idx4 (W : World) : (Instr.index 146 (.agg #[.nilFunc, .func (.func 126) #[] #[], .func (.func 127) #[] #[], .func (.func 128) #[] #[], .func (.func 129) #[] #[], .func (.func 130) #[] #[]]) (.int .i64 4)).run Tryz.prog W = .ok (.func (.func 129) #[] #[]) W := by kernel_rfl
theorem idx5 (W : World) : (Instr.index 146 (.agg #[.nilFunc, .func (.func 126) #[] #[], .func (.func 127) #[] #[], .func (.func 128) #[] #[], .func (.func 129) #[] #[], .func (.func 130) #[] #[]]) (.int .i64 5)).run Tryz.prog W = .ok (.func (.func 130) #[] #[]) W := by kernel_rfl
set_option maxRecDepth 100000 in
set_option maxHeartbeats 4000000 in
/-- The meaning of a kind, called. -/
theorem earlyF (r : Rl) (n : Int) (sv lv : Value) (L : List Int) (w : World) (hs : RowI w sv r.steps) (hl : RowI w lv L) (hm : r.steps.length ≤ 1000) :
    Calls Tryz.prog 109 #[rv r sv, .int .i64 n, lv] w fun e w' => e = .returned (.bool (early r n L)) ∧ Below w.heap.size w w' := by
  have KC : Hid (∀ W, Below w.heap.size w W → Calls Tryz.prog 52 #[.int .i64 n, rv r sv] W fun e w' => e = .returned (.int .i64 (erC (chk n r))) ∧ Below W.heap.size W w') := fun W hW => checkF n r sv W (hs.below hW (Nat.le_refl _)) (by omega)
  have hS0 := hide' hs
  have hL0 := hide' hl
  obtain ⟨oa, ca, rfl, _, _⟩ := hs
  obtain ⟨ob, cb, rfl, _, _⟩ := hl
  unfold rv at KC ⊢
  have hB : Hid (Below w.heap.size w (w.alloc (.cells #[.int .i64 r.kind, .int .i64 r.k, .slice oa r.steps.length ca] 46))) := (Below.refl _ w).alloc (Nat.le_refl _) _
  cases hk : chk n r with
  | false =>
    have hR : Hid (early r n L = false) := by show _ = _; unfold early; rw [hk]; rfl
    rw [hk] at KC
    have KC' : Hid (∀ W, Below w.heap.size w W → Calls Tryz.prog 52 #[.int .i64 n, .agg #[.int .i64 r.kind, .int .i64 r.k, .slice oa r.steps.length ca]] W fun e w' => e = .returned (.int .i64 1) ∧ Below W.heap.size W w') := KC
    clear KC hS0 hL0 hk
    go_enter Tryz.func109, Tryz.ntmps109
    go_wp2_with (go_at_call 52; refine (KC'.out _ hB.out).mono ?_; rintro e w1 ⟨rfl, hb1⟩)
    go_ret
    exact ⟨ret_bool hR.out.symm, hB.out.trans (hb1.mono hB.out.size)⟩
  | true =>
    rw [hk] at KC
    have KC' : Hid (∀ W, Below w.heap.size w W → Calls Tryz.prog 52 #[.int .i64 n, .agg #[.int .i64 r.kind, .int .i64 r.k, .slice oa r.steps.length ca]] W fun e w' => e = .returned (.int .i64 0) ∧ Below W.heap.size W w') := KC
    clear KC
    by_cases hln : (L.length : Int) ≤ n
    · have hris : ris n 0 r.steps = true := by
        simp [chk] at hk; exact hk.1.2
      have hnum : numF r.kind r.k r.steps.length = true := by
        simp [chk] at hk; exact hk.2
      obtain ⟨T, hT⟩ := ris_nat hris (Int.le_refl _)
      have hTl : T.length = r.steps.length := by rw [hT, ints_len]
      have hKn : r.kind = 1 ∨ r.kind = 2 ∨ r.kind = 3 ∨ r.kind = 4 ∨ r.kind = 5 := by
        unfold numF at hnum
        by_cases h1 : r.kind = 1 ∨ r.kind = 2
        · omega
        · rw [if_neg h1] at hnum
          by_cases h2 : r.kind = 3 ∨ r.kind = 4
          · omega
          · rw [if_neg h2] at hnum
            by_cases h3 : r.kind = 5
            · omega
            · rw [if_neg h3] at hnum; cases hnum
      have hR : Hid (early r n L = means r.kind r.k (labs L r.steps) (r.steps.length - (labs L r.steps).length)) := by show _ = _; unfold early; rw [hk, decide_eq_true hln]; rfl
      have KN : Hid (∀ W, Below w.heap.size w W → Calls Tryz.prog 121 #[.agg #[.int .i64 r.kind, .int .i64 r.k, .slice oa r.steps.length ca], .slice ob L.length cb] W fun e w' => e = .returned (cv r.k (mst (labs L r.steps)) (unl (labs L r.steps)) (r.steps.length - (labs L r.steps).length)) ∧ Below W.heap.size W w') := fun W hW => by
        have h1 := hS0.out.below hW (Nat.le_refl _)
        have h2 := hL0.out.below hW (Nat.le_refl _)
        rw [hT] at hris h1 hm ⊢
        rw [ints_len] at hm h1 ⊢
        exact countF r.kind r.k T L _ _ W h1 h2 (rise_of hris) (by omega)
      have KM := hide' fun W => meanings W
      have hun : unl (labs L r.steps) ≤ 1000000 := Nat.le_trans (unl_le _) (Nat.le_trans (labs_len _ _) (by omega))
      have hop : r.steps.length - (labs L r.steps).length ≤ 1000000 := by omega
      unfold means at hR
      unfold fnv at KM
      generalize mst (labs L r.steps) = mm at *
      generalize unl (labs L r.steps) = uu at *
      generalize r.steps.length - (labs L r.steps).length = oo at *
      have hln' : ¬ n < (L.length : Int) := by omega
      clear hris hnum hS0 hL0 hk hT hTl hln
      generalize r.steps.length = q at *
      generalize r.k = kk at *
      generalize r.kind = kd at *
      rcases hKn with rfl | rfl | rfl | rfl | rfl
      · have KF := hide' fun W => mApart kk mm uu oo W
        go_enter Tryz.func109, Tryz.ntmps109
        go_wp2_with (go_at_call 52; refine (KC'.out _ hB.out).mono ?_; rintro e w1 ⟨rfl, hb1⟩)
        have hb1' := hide' hb1
        have hB1 : Hid (Below w.heap.size w w1) := hB.out.trans (hb1.mono hB.out.size)
        have hbox : Hid (∀ V, Below w1.heap.size w1 V → V.cell? ⟨w.heap.size, 0, none⟩ = some (.int .i64 1) ∧ V.cell? ⟨w.heap.size, 1, none⟩ = some (.int .i64 kk) ∧ V.cell? ⟨w.heap.size, 2, none⟩ = some (.slice oa q ca)) := fun V hV => by
          have e : V.heap[w.heap.size]? = some (.cells #[.int .i64 1, .int .i64 kk, .slice oa q ca] 46) := by
            rw [hV.block _ (Nat.lt_of_lt_of_le (by simp) hb1'.out.size), hb1'.out.block _ (by simp)]
            exact heap_new w _
          simp [World.cell?, e]
        have hS := hide' (hbox.out w1.drew (Below.refl _ _).drew).1
        have hix := idx1
        clear hb1 KC'
        go_region_held3 (fun V => V.cell? ⟨w.heap.size, 0, none⟩ = some (.int .i64 1)) (first | (exact hS.out) | (exact (hbox.out _ hb2.out).1)) (first | (go_at_call 120; refine (KM.out _).mono ?_; rintro e w2 ⟨rfl, hb2'⟩; have hb2 : Hid (Below w1.heap.size w1 w2) := ((Below.refl _ _).drew.trans hb2'); clear hb2'))
        all_goals
          obtain ⟨x0, x1, x2⟩ := hbox.out _ hb2.out
          have hB2 : Hid (Below w.heap.size w w2) := hB1.out.trans (hb2.out.mono hB1.out.size)
          clear hS hbox hb1'
          go_wp2_with (first | (go_at_call 121; refine (KN.out _ hB2.out).mono ?_; rintro e w3 ⟨rfl, hb3⟩) | (go_at_call 126; refine (KF.out _).mono ?_; rintro e w4 ⟨rfl, hb4⟩))
          go_ret
          exact ⟨ret_bool (by rw [hR.out]; simp; try omega), (hB2.out.trans (hb3.mono hB2.out.size)).trans (hb4.mono (Nat.le_trans hB2.out.size hb3.size))⟩
      · have KF := hide' fun W => mSame kk mm uu oo W
        go_enter Tryz.func109, Tryz.ntmps109
        go_wp2_with (go_at_call 52; refine (KC'.out _ hB.out).mono ?_; rintro e w1 ⟨rfl, hb1⟩)
        have hb1' := hide' hb1
        have hB1 : Hid (Below w.heap.size w w1) := hB.out.trans (hb1.mono hB.out.size)
        have hbox : Hid (∀ V, Below w1.heap.size w1 V → V.cell? ⟨w.heap.size, 0, none⟩ = some (.int .i64 2) ∧ V.cell? ⟨w.heap.size, 1, none⟩ = some (.int .i64 kk) ∧ V.cell? ⟨w.heap.size, 2, none⟩ = some (.slice oa q ca)) := fun V hV => by
          have e : V.heap[w.heap.size]? = some (.cells #[.int .i64 2, .int .i64 kk, .slice oa q ca] 46) := by
            rw [hV.block _ (Nat.lt_of_lt_of_le (by simp) hb1'.out.size), hb1'.out.block _ (by simp)]
            exact heap_new w _
          simp [World.cell?, e]
        have hS := hide' (hbox.out w1.drew (Below.refl _ _).drew).1
        have hix := idx2
        clear hb1 KC'
        go_region_held3 (fun V => V.cell? ⟨w.heap.size, 0, none⟩ = some (.int .i64 2)) (first | (exact hS.out) | (exact (hbox.out _ hb2.out).1)) (first | (go_at_call 120; refine (KM.out _).mono ?_; rintro e w2 ⟨rfl, hb2'⟩; have hb2 : Hid (Below w1.heap.size w1 w2) := ((Below.refl _ _).drew.trans hb2'); clear hb2'))
        all_goals
          obtain ⟨x0, x1, x2⟩ := hbox.out _ hb2.out
          have hB2 : Hid (Below w.heap.size w w2) := hB1.out.trans (hb2.out.mono hB1.out.size)
          clear hS hbox hb1'
          go_wp2_with (first | (go_at_call 121; refine (KN.out _ hB2.out).mono ?_; rintro e w3 ⟨rfl, hb3⟩) | (go_at_call 127; refine (KF.out _).mono ?_; rintro e w4 ⟨rfl, hb4⟩))
          go_ret
          exact ⟨ret_bool (by rw [hR.out]; simp; try omega), (hB2.out.trans (hb3.mono hB2.out.size)).trans (hb4.mono (Nat.le_trans hB2.out.size hb3.size))⟩
      · have KF := hide' fun W => mMost kk mm uu oo W
        go_enter Tryz.func109, Tryz.ntmps109
        go_wp2_with (go_at_call 52; refine (KC'.out _ hB.out).mono ?_; rintro e w1 ⟨rfl, hb1⟩)
        have hb1' := hide' hb1
        have hB1 : Hid (Below w.heap.size w w1) := hB.out.trans (hb1.mono hB.out.size)
        have hbox : Hid (∀ V, Below w1.heap.size w1 V → V.cell? ⟨w.heap.size, 0, none⟩ = some (.int .i64 3) ∧ V.cell? ⟨w.heap.size, 1, none⟩ = some (.int .i64 kk) ∧ V.cell? ⟨w.heap.size, 2, none⟩ = some (.slice oa q ca)) := fun V hV => by
          have e : V.heap[w.heap.size]? = some (.cells #[.int .i64 3, .int .i64 kk, .slice oa q ca] 46) := by
            rw [hV.block _ (Nat.lt_of_lt_of_le (by simp) hb1'.out.size), hb1'.out.block _ (by simp)]
            exact heap_new w _
          simp [World.cell?, e]
        have hS := hide' (hbox.out w1.drew (Below.refl _ _).drew).1
        have hix := idx3
        clear hb1 KC'
        go_region_held3 (fun V => V.cell? ⟨w.heap.size, 0, none⟩ = some (.int .i64 3)) (first | (exact hS.out) | (exact (hbox.out _ hb2.out).1)) (first | (go_at_call 120; refine (KM.out _).mono ?_; rintro e w2 ⟨rfl, hb2'⟩; have hb2 : Hid (Below w1.heap.size w1 w2) := ((Below.refl _ _).drew.trans hb2'); clear hb2'))
        all_goals
          obtain ⟨x0, x1, x2⟩ := hbox.out _ hb2.out
          have hB2 : Hid (Below w.heap.size w w2) := hB1.out.trans (hb2.out.mono hB1.out.size)
          clear hS hbox hb1'
          go_wp2_with (first | (go_at_call 121; refine (KN.out _ hB2.out).mono ?_; rintro e w3 ⟨rfl, hb3⟩) | (go_at_call 128; refine (KF.out _).mono ?_; rintro e w4 ⟨rfl, hb4⟩))
          go_ret
          exact ⟨ret_bool (by rw [hR.out]; simp; try omega), (hB2.out.trans (hb3.mono hB2.out.size)).trans (hb4.mono (Nat.le_trans hB2.out.size hb3.size))⟩
      · have KF := hide' fun W => mFew kk mm uu oo W
        go_enter Tryz.func109, Tryz.ntmps109
        go_wp2_with (go_at_call 52; refine (KC'.out _ hB.out).mono ?_; rintro e w1 ⟨rfl, hb1⟩)
        have hb1' := hide' hb1
        have hB1 : Hid (Below w.heap.size w w1) := hB.out.trans (hb1.mono hB.out.size)
        have hbox : Hid (∀ V, Below w1.heap.size w1 V → V.cell? ⟨w.heap.size, 0, none⟩ = some (.int .i64 4) ∧ V.cell? ⟨w.heap.size, 1, none⟩ = some (.int .i64 kk) ∧ V.cell? ⟨w.heap.size, 2, none⟩ = some (.slice oa q ca)) := fun V hV => by
          have e : V.heap[w.heap.size]? = some (.cells #[.int .i64 4, .int .i64 kk, .slice oa q ca] 46) := by
            rw [hV.block _ (Nat.lt_of_lt_of_le (by simp) hb1'.out.size), hb1'.out.block _ (by simp)]
            exact heap_new w _
          simp [World.cell?, e]
        have hS := hide' (hbox.out w1.drew (Below.refl _ _).drew).1
        have hix := idx4
        clear hb1 KC'
        go_region_held3 (fun V => V.cell? ⟨w.heap.size, 0, none⟩ = some (.int .i64 4)) (first | (exact hS.out) | (exact (hbox.out _ hb2.out).1)) (first | (go_at_call 120; refine (KM.out _).mono ?_; rintro e w2 ⟨rfl, hb2'⟩; have hb2 : Hid (Below w1.heap.size w1 w2) := ((Below.refl _ _).drew.trans hb2'); clear hb2'))
        all_goals
          obtain ⟨x0, x1, x2⟩ := hbox.out _ hb2.out
          have hB2 : Hid (Below w.heap.size w w2) := hB1.out.trans (hb2.out.mono hB1.out.size)
          clear hS hbox hb1'
          go_wp2_with (first | (go_at_call 121; refine (KN.out _ hB2.out).mono ?_; rintro e w3 ⟨rfl, hb3⟩) | (go_at_call 129; refine (KF.out _).mono ?_; rintro e w4 ⟨rfl, hb4⟩))
          go_ret
          exact ⟨ret_bool (by rw [hR.out]; simp; try omega), (hB2.out.trans (hb3.mono hB2.out.size)).trans (hb4.mono (Nat.le_trans hB2.out.size hb3.size))⟩
      · have KF := hide' fun W => mMany kk mm uu oo hun hop W
        go_enter Tryz.func109, Tryz.ntmps109
        go_wp2_with (go_at_call 52; refine (KC'.out _ hB.out).mono ?_; rintro e w1 ⟨rfl, hb1⟩)
        have hb1' := hide' hb1
        have hB1 : Hid (Below w.heap.size w w1) := hB.out.trans (hb1.mono hB.out.size)
        have hbox : Hid (∀ V, Below w1.heap.size w1 V → V.cell? ⟨w.heap.size, 0, none⟩ = some (.int .i64 5) ∧ V.cell? ⟨w.heap.size, 1, none⟩ = some (.int .i64 kk) ∧ V.cell? ⟨w.heap.size, 2, none⟩ = some (.slice oa q ca)) := fun V hV => by
          have e : V.heap[w.heap.size]? = some (.cells #[.int .i64 5, .int .i64 kk, .slice oa q ca] 46) := by
            rw [hV.block _ (Nat.lt_of_lt_of_le (by simp) hb1'.out.size), hb1'.out.block _ (by simp)]
            exact heap_new w _
          simp [World.cell?, e]
        have hS := hide' (hbox.out w1.drew (Below.refl _ _).drew).1
        have hix := idx5
        clear hb1 KC'
        go_region_held3 (fun V => V.cell? ⟨w.heap.size, 0, none⟩ = some (.int .i64 5)) (first | (exact hS.out) | (exact (hbox.out _ hb2.out).1)) (first | (go_at_call 120; refine (KM.out _).mono ?_; rintro e w2 ⟨rfl, hb2'⟩; have hb2 : Hid (Below w1.heap.size w1 w2) := ((Below.refl _ _).drew.trans hb2'); clear hb2'))
        all_goals
          obtain ⟨x0, x1, x2⟩ := hbox.out _ hb2.out
          have hB2 : Hid (Below w.heap.size w w2) := hB1.out.trans (hb2.out.mono hB1.out.size)
          clear hS hbox hb1'
          go_wp2_with (first | (go_at_call 121; refine (KN.out _ hB2.out).mono ?_; rintro e w3 ⟨rfl, hb3⟩) | (go_at_call 130; refine (KF.out _).mono ?_; rintro e w4 ⟨rfl, hb4⟩))
          go_ret
          exact ⟨ret_bool (by rw [hR.out]; simp; try omega), (hB2.out.trans (hb3.mono hB2.out.size)).trans (hb4.mono (Nat.le_trans hB2.out.size hb3.size))⟩
    · have hR : Hid (early r n L = false) := by show _ = _; unfold early; rw [hk, decide_eq_false hln]; rfl
      have hln' : n < (L.length : Int) := by omega
      clear hS0 hL0 hk hln
      go_enter Tryz.func109, Tryz.ntmps109
      go_wp2_with (go_at_call 52; refine (KC'.out _ hB.out).mono ?_; rintro e w1 ⟨rfl, hb1⟩)
      go_ret
      exact ⟨ret_bool hR.out.symm, hB.out.trans (hb1.mono hB.out.size)⟩
end Go.Proofs.YtmbdnhgmpmnhmaaGreatDoor
namespace Go.Proofs.YtmbdnhgmpmnhmaaGreatDoor
open Go.RowKit
/-- The places, up to c, of the rules that are broken. -/
def brk (R : List Rl) (L : List Int) (c : Nat) : List Nat := (List.range c).filter fun i => match R[i]? with | some r => !holds r L | none => false
theorem brk_all (R : List Rl) (L : List Int) : broken R L = brk R L R.length := rfl
theorem brk_snoc (R : List Rl) (L : List Int) {c : Nat} {r : Rl} (h : R[c]? = some r) : brk R L (c + 1) = brk R L c ++ if holds r L then [] else [c] := by
  unfold brk
  rw [List.range_succ, List.filter_append]
  congr 1
  rw [List.filter_cons, h]
  cases hh : holds r L <;> simp [hh]
theorem brk_len (R : List Rl) (L : List Int) (c : Nat) : (brk R L c).length ≤ c := by
  refine Nat.le_trans (List.length_filter_le _ _) ?_
  simp
theorem rowL (w : World) (cs : Array Value) (l : List Int) (h : cs.toList = cellsI l) : RowI (w.alloc (.cells cs 3)) (.slice (some ⟨w.heap.size, 0, none⟩) l.length l.length) l := by
  refine ⟨_, _, rfl, ⟨Nat.le_refl _, fun e => by cases e⟩, fun i z hz => ⟨w.heap.size, 0, rfl, ?_⟩⟩
  have : cs[i]? = some (Value.int .i64 z) := by
    rw [← Array.getElem?_toList, h]
    simp [cellsI, hz]
  have e : (w.alloc (.cells cs 3)).heap[w.heap.size]? = some (.cells cs 3) := heap_new w _
  rw [Nat.zero_add, World.cell?]
  show (match (w.alloc (.cells cs 3)).heap[w.heap.size]? with | some (.cells c _ _) => c[i]? | _ => none) = _
  rw [e]
  exact this
end Go.Proofs.YtmbdnhgmpmnhmaaGreatDoor
namespace Go.Proofs.YtmbdnhgmpmnhmaaGreatDoor
open Go.RowKit
theorem take_succI {l : List Int} {c : Nat} {x : Int} (h : l[c]? = some x) : l.take (c + 1) = l.take c ++ [x] := by rw [List.take_add_one, h]; rfl
theorem unl_take_le (P : List Int) (c : Nat) : unl (P.take c) ≤ c := by
  refine Nat.le_trans (unl_le _) ?_
  rw [List.length_take]; omega
set_option maxRecDepth 100000 in
set_option maxHeartbeats 2000000 in
theorem rUnlike (P : List Int) (v : Value) (w : World) (hr : RowI w v P) (hn : P.length ≤ 1000000) :
    Calls Tryz.prog 123 #[v] w fun e w' => e = .returned (.int .i64 (unl P : Nat)) ∧ Below w.heap.size w w' := by
  obtain ⟨oa, cap, rfl, _, hc⟩ := hr
  have hc' := hide' hc
  clear hc
  go_enter Tryz.func123, Tryz.ntmps123
  go_wp2
  go_loopw [3, 4, 5, 6] (fun m k _ _ wr => ∃ c : Nat, Hid (Below w.heap.size w wr) ∧ c ≤ P.length ∧ k = .int .i64 c ∧ m = .int .i64 ((unl (P.take c) : Nat) : Int)) (fun _ k _ _ _ => ((P.length : Int) - intOf k).toNat)
  case atStart => exact ⟨0, Below.refl _ _, Nat.zero_le _, rfl, rfl⟩
  case round =>
    obtain ⟨c, hB, hcl, rfl, rfl⟩ := hrel
    have hul := unl_take_le P c
    by_cases hlt : c < P.length
    · obtain ⟨x, hx⟩ : ∃ x, P[c]? = some x := ⟨_, List.getElem?_eq_getElem hlt⟩
      obtain ⟨g, o, rfl, cx0⟩ := hc'.out c x hx
      have hN : Hid (unl (P.take (c + 1)) = unl (P.take c) + if x ∈ P.take c then 0 else 1) := by show _ = _; rw [take_succI hx, unl_snoc]
      generalize unl (P.take c) = m at *
      go_wp2
      go_loopw [5, 6] (fun f k wr => ∃ d : Nat, Hid (Below w.heap.size w wr) ∧ d ≤ c ∧ k = .int .i64 d ∧ ∃ fv : Nat, f = .int .i64 (fv : Int) ∧ fv ≤ 1 ∧ Hid (fv = if x ∈ P.take d then 0 else 1)) (fun _ k _ => ((c : Int) - intOf k).toNat)
      case atStart => exact ⟨0, hB, Nat.zero_le _, rfl, 1, rfl, Nat.le_refl _, by show _ = _; simp⟩
      case round =>
        clear hB
        obtain ⟨d, hB, hdc, rfl, fv, rfl, hf1, hf⟩ := hrel
        by_cases hlt2 : d < c
        · obtain ⟨y, hy⟩ : ∃ y, P[d]? = some y := ⟨_, List.getElem?_eq_getElem (by omega)⟩
          obtain ⟨g', o', e', cy0⟩ := hc'.out d y hy
          cases e'
          have cx := (hB.out.cell (p := ⟨g, o + c, none⟩) (cell_lt cx0)).trans cx0
          have cy := (hB.out.cell (p := ⟨g, o + d, none⟩) (cell_lt cy0)).trans cy0
          clear cx0 cy0
          have hdl : d < P.length := by omega
          have hmem : Hid ((x ∈ P.take (d + 1)) ↔ (x ∈ P.take d ∨ x = y)) := by show _ ↔ _; rw [take_succI hy]; simp
          clear hx hy hc' hN
          by_cases hxy : y = x
          · subst hxy
            have hF : Hid (0 = if y ∈ P.take (d + 1) then 0 else 1) := by show _ = _; rw [if_pos (hmem.out.2 (.inr rfl))]
            clear hmem hf
            go_wp2
            go_region
            go_wp2
            exact ⟨⟨d + 1, hB.out.drew, by omega, by go_num, 0, rfl, by omega, hF⟩, by simp [intOf]; omega⟩
          · have hd : (y == x) = false := by simpa using hxy
            have hF : Hid (fv = if x ∈ P.take (d + 1) then 0 else 1) := by
              show _ = _
              rw [hf.out]
              by_cases h : x ∈ P.take d
              · rw [if_pos h, if_pos (hmem.out.2 (.inl h))]
              · rw [if_neg h, if_neg (fun h' => (hmem.out.1 h').elim h (fun e => hxy e.symm))]
            clear hmem hf hxy
            go_wp2
            go_region
            go_wp2
            exact ⟨⟨d + 1, hB.out.drew, by omega, by go_num, fv, rfl, hf1, hF⟩, by simp [intOf]; omega⟩
        · obtain rfl : d = c := by omega
          have hM : Hid (unl (P.take (d + 1)) = m + fv) := by show _ = _; rw [hN.out, hf.out]
          clear hN hf hc' hx
          go_wp2
          exact ⟨⟨d + 1, hB, by omega, by go_num, by rw [hM.out]; go_num⟩, by simp [intOf]; omega⟩
    · obtain rfl : c = P.length := by omega
      rw [List.take_length] at *
      clear hc'
      go_wp2
      go_ret
      exact ⟨rfl, hB.out⟩
/-- The greatest of the counts of the first ones. -/
def oft (P : List Int) (c : Nat) : Nat := ((P.take c).map fun x => P.count x).foldl max 0
theorem oft_all (P : List Int) : oft P P.length = mst P := by unfold oft mst; rw [List.take_length]
theorem oft_succ {P : List Int} {c : Nat} {x : Int} (h : P[c]? = some x) : oft P (c + 1) = max (oft P c) (P.count x) := by
  unfold oft
  rw [take_succI h, List.map_append, List.foldl_append]; rfl
theorem oft_le (P : List Int) (c : Nat) : oft P c ≤ P.length := by
  unfold oft
  rw [foldl_max]
  refine ⟨Nat.zero_le _, fun x hx => ?_⟩
  obtain ⟨y, _, rfl⟩ := List.mem_map.1 hx
  exact List.count_le_length
set_option maxRecDepth 100000 in
set_option maxHeartbeats 2000000 in
theorem rOften (P : List Int) (v : Value) (w : World) (hr : RowI w v P) (hn : P.length ≤ 1000000) :
    Calls Tryz.prog 124 #[v] w fun e w' => e = .returned (.int .i64 (mst P : Nat)) ∧ Below w.heap.size w w' := by
  obtain ⟨oa, cap, rfl, _, hc⟩ := hr
  have hc' := hide' hc
  clear hc
  go_enter Tryz.func124, Tryz.ntmps124
  go_wp2
  go_loopw [3, 4, 5, 6] (fun m k _ _ wr => ∃ c : Nat, Hid (Below w.heap.size w wr) ∧ c ≤ P.length ∧ k = .int .i64 c ∧ m = .int .i64 ((oft P c : Nat) : Int)) (fun _ k _ _ _ => ((P.length : Int) - intOf k).toNat)
  case atStart => exact ⟨0, Below.refl _ _, Nat.zero_le _, rfl, rfl⟩
  case round =>
    obtain ⟨c, hB, hcl, rfl, rfl⟩ := hrel
    have hul := oft_le P c
    by_cases hlt : c < P.length
    · obtain ⟨x, hx⟩ : ∃ x, P[c]? = some x := ⟨_, List.getElem?_eq_getElem hlt⟩
      obtain ⟨g, o, rfl, cx0⟩ := hc'.out c x hx
      have hN : Hid (oft P (c + 1) = max (oft P c) (P.count x)) := oft_succ hx
      generalize oft P c = m at *
      go_wp2
      go_loopw [5, 6] (fun f k wr => ∃ d : Nat, Hid (Below w.heap.size w wr) ∧ d ≤ P.length ∧ k = .int .i64 d ∧ ∃ fv : Nat, f = .int .i64 (fv : Int) ∧ fv ≤ d ∧ Hid (fv = (P.take d).count x)) (fun _ k _ => ((P.length : Int) - intOf k).toNat)
      case atStart => exact ⟨0, hB, Nat.zero_le _, rfl, 0, rfl, Nat.le_refl _, by show _ = _; simp⟩
      case round =>
        clear hB
        obtain ⟨d, hB, hdc, rfl, fv, rfl, hf1, hf⟩ := hrel
        by_cases hlt2 : d < P.length
        · obtain ⟨y, hy⟩ : ∃ y, P[d]? = some y := ⟨_, List.getElem?_eq_getElem (by omega)⟩
          obtain ⟨g', o', e', cy0⟩ := hc'.out d y hy
          cases e'
          have cx := (hB.out.cell (p := ⟨g, o + c, none⟩) (cell_lt cx0)).trans cx0
          have cy := (hB.out.cell (p := ⟨g, o + d, none⟩) (cell_lt cy0)).trans cy0
          clear cx0 cy0
          have hF : Hid ((P.take (d + 1)).count x = fv + if y = x then 1 else 0) := by
            show _ = _
            rw [take_succI hy, List.count_append, ← hf.out, List.count_singleton]
            simp
          clear hx hy hc' hN hf
          by_cases hxy : y = x
          · subst hxy
            rw [if_pos rfl] at hF
            go_wp2
            go_region
            go_wp2
            exact ⟨⟨d + 1, hB.out.drew, by omega, by go_num, fv + 1, by go_num, by omega, hF.out.symm⟩, by simp [intOf]; omega⟩
          · have hd : (y == x) = false := by simpa using hxy
            rw [if_neg hxy] at hF
            clear hxy
            go_wp2
            go_region
            go_wp2
            exact ⟨⟨d + 1, hB.out.drew, by omega, by go_num, fv, rfl, by omega, hF.out.symm⟩, by simp [intOf]; omega⟩
        · obtain rfl : d = P.length := by omega
          rw [List.take_length] at hf
          rw [← hf.out] at hN
          clear hf hc' hx
          by_cases hmf : m < fv
          · have hM : Hid (oft P (c + 1) = fv) := by show _ = _; rw [hN.out]; omega
            clear hN
            go_wp2
            exact ⟨⟨c + 1, hB, by omega, by go_num, by rw [hM.out]⟩, by simp [intOf]; omega⟩
          · have hM : Hid (oft P (c + 1) = m) := by show _ = _; rw [hN.out]; omega
            clear hN
            go_wp2
            exact ⟨⟨c + 1, hB, by omega, by go_num, by rw [hM.out]⟩, by simp [intOf]; omega⟩
    · obtain rfl : c = P.length := by omega
      rw [oft_all] at *
      clear hc'
      go_wp2
      go_ret
      exact ⟨rfl, hB.out⟩
end Go.Proofs.YtmbdnhgmpmnhmaaGreatDoor
