/- The kinds' meanings; Early, Holds, Broken: what they answer. -/
import Derived.Test.YtahfobbiaimoiaaGreatDoorJ40
import Derived.Laws.EntriesVeiled
namespace Go.Proofs.YtahfobbiaimoiaaGreatDoor
open Go.RowKit
set_option maxHeartbeats 1000000 in
theorem mApart (k : Int) (m u o : Nat) (w : World) : Calls Tryz.prog 148 #[cv k m u o] w fun e w' => e = .returned (.bool (decide ((m : Int) ≤ 1))) ∧ Below w.heap.size w w' := by
  unfold cv
  have hB := hide' ((Below.refl _ w).alloc (Nat.le_refl _) (.cells #[.int .i64 k, .int .i64 (m : Int), .int .i64 (u : Int), .int .i64 (o : Int)] 174))
  go_enter Tryz.func148, Tryz.ntmps148
  go_wp2
  go_ret
  exact ⟨rfl, hB.out⟩
set_option maxHeartbeats 1000000 in
theorem mSame (k : Int) (m u o : Nat) (w : World) : Calls Tryz.prog 149 #[cv k m u o] w fun e w' => e = .returned (.bool (decide ((u : Int) ≤ 1))) ∧ Below w.heap.size w w' := by
  unfold cv
  have hB := hide' ((Below.refl _ w).alloc (Nat.le_refl _) (.cells #[.int .i64 k, .int .i64 (m : Int), .int .i64 (u : Int), .int .i64 (o : Int)] 174))
  go_enter Tryz.func149, Tryz.ntmps149
  go_wp2
  go_ret
  exact ⟨rfl, hB.out⟩
set_option maxHeartbeats 1000000 in
theorem mMost (k : Int) (m u o : Nat) (w : World) : Calls Tryz.prog 150 #[cv k m u o] w fun e w' => e = .returned (.bool (decide ((m : Int) ≤ k))) ∧ Below w.heap.size w w' := by
  unfold cv
  have hB := hide' ((Below.refl _ w).alloc (Nat.le_refl _) (.cells #[.int .i64 k, .int .i64 (m : Int), .int .i64 (u : Int), .int .i64 (o : Int)] 174))
  go_enter Tryz.func150, Tryz.ntmps150
  go_wp2
  go_ret
  exact ⟨rfl, hB.out⟩
set_option maxHeartbeats 1000000 in
theorem mFew (k : Int) (m u o : Nat) (w : World) : Calls Tryz.prog 151 #[cv k m u o] w fun e w' => e = .returned (.bool (decide ((u : Int) ≤ k))) ∧ Below w.heap.size w w' := by
  unfold cv
  have hB := hide' ((Below.refl _ w).alloc (Nat.le_refl _) (.cells #[.int .i64 k, .int .i64 (m : Int), .int .i64 (u : Int), .int .i64 (o : Int)] 174))
  go_enter Tryz.func151, Tryz.ntmps151
  go_wp2
  go_ret
  exact ⟨rfl, hB.out⟩
set_option maxHeartbeats 1000000 in
theorem mMany (k : Int) (m u o : Nat) (hu : u ≤ 1000000) (ho : o ≤ 1000000) (w : World) : Calls Tryz.prog 152 #[cv k m u o] w fun e w' => e = .returned (.bool (decide (k ≤ (u : Int) + (o : Int)))) ∧ Below w.heap.size w w' := by
  unfold cv
  have hB := hide' ((Below.refl _ w).alloc (Nat.le_refl _) (.cells #[.int .i64 k, .int .i64 (m : Int), .int .i64 (u : Int), .int .i64 (o : Int)] 174))
  have hw : IntKind.i64.wrap ((u : Int) + (o : Int)) = (u : Int) + (o : Int) := by
    rw [IntKind.wrap_i64]
    omega
  go_enter Tryz.func152, Tryz.ntmps152
  go_wp2
  go_ret
  exact ⟨rfl, hB.out⟩
def fnv (f : Nat) : Value := .func (.func f) #[] #[]
set_option maxRecDepth 100000 in
set_option maxHeartbeats 1000000 in
theorem meanings (w : World) : Calls Tryz.prog 129 #[] w fun e w' => e = .returned (.agg #[.nilFunc, fnv 148, fnv 149, fnv 150, fnv 151, fnv 152]) ∧ Below w.heap.size w w' := by
  have hB := hide' ((Below.refl _ w).alloc (Nat.le_refl _) (.cells #[.nilFunc, fnv 148, fnv 149, fnv 150, fnv 151, fnv 152] 171))
  go_enter Tryz.func129, Tryz.ntmps129
  go_wp2
  refine bodyPost_ret (v := .agg #[.nilFunc, fnv 148, fnv 149, fnv 150, fnv 151, fnv 152]) (by simp [results, Tryz.results129, go_sem, fnv]) rfl ?_
  exact ⟨rfl, hB.out⟩
theorem idx1 (W : World) : (Instr.index 171 (.agg #[.nilFunc, .func (.func 148) #[] #[], .func (.func 149) #[] #[], .func (.func 150) #[] #[], .func (.func 151) #[] #[], .func (.func 152) #[] #[]]) (.int .i64 1)).run Tryz.prog W = .ok (.func (.func 148) #[] #[]) W := by kernel_rfl
theorem idx2 (W : World) : (Instr.index 171 (.agg #[.nilFunc, .func (.func 148) #[] #[], .func (.func 149) #[] #[], .func (.func 150) #[] #[], .func (.func 151) #[] #[], .func (.func 152) #[] #[]]) (.int .i64 2)).run Tryz.prog W = .ok (.func (.func 149) #[] #[]) W := by kernel_rfl
theorem idx3 (W : World) : (Instr.index 171 (.agg #[.nilFunc, .func (.func 148) #[] #[], .func (.func 149) #[] #[], .func (.func 150) #[] #[], .func (.func 151) #[] #[], .func (.func 152) #[] #[]]) (.int .i64 3)).run Tryz.prog W = .ok (.func (.func 150) #[] #[]) W := by kernel_rfl
theorem idx4 (W : World) : (Instr.index 171 (.agg #[.nilFunc, .func (.func 148) #[] #[], .func (.func 149) #[] #[], .func (.func 150) #[] #[], .func (.func 151) #[] #[], .func (.func 152) #[] #[]]) (.int .i64 4)).run Tryz.prog W = .ok (.func (.func 151) #[] #[]) W := by kernel_rfl
theorem idx5 (W : World) : (Instr.index 171 (.agg #[.nilFunc, .func (.func 148) #[] #[], .func (.func 149) #[] #[], .func (.func 150) #[] #[], .func (.func 151) #[] #[], .func (.func 152) #[] #[]]) (.int .i64 5)).run Tryz.prog W = .ok (.func (.func 152) #[] #[]) W := by kernel_rfl
set_option maxRecDepth 100000 in
set_option maxHeartbeats 4000000 in
/-- The meaning of a kind, called. -/
theorem earlyF (r : Rl) (n : Int) (sv lv : Value) (L : List Int) (w : World) (hs : RowI w sv r.steps) (hl : RowI w lv L) (hm : r.steps.length ≤ 1000) :
    Calls Tryz.prog 104 #[rv r sv, .int .i64 n, lv] w fun e w' => e = .returned (.bool (early r n L)) ∧ Below w.heap.size w w' := by
  have KC : Hid (∀ W, Below w.heap.size w W → Calls Tryz.prog 128 #[.int .i64 n, rv r sv] W fun e w' => e = .returned (.int .i64 (erC (chk n r))) ∧ Below W.heap.size W w') := fun W hW => checkF n r sv W (hs.below hW (Nat.le_refl _)) (by omega)
  have hS0 := hide' hs
  have hL0 := hide' hl
  obtain ⟨oa, ca, rfl, _, _⟩ := hs
  obtain ⟨ob, cb, rfl, _, _⟩ := hl
  unfold rv at KC ⊢
  have hB : Hid (Below w.heap.size w (w.alloc (.cells #[.int .i64 r.kind, .int .i64 r.k, .slice oa r.steps.length ca] 82))) := (Below.refl _ w).alloc (Nat.le_refl _) _
  cases hk : chk n r with
  | false =>
    have hR : Hid (early r n L = false) := by show _ = _; unfold early; rw [hk]; rfl
    rw [hk] at KC
    have KC' : Hid (∀ W, Below w.heap.size w W → Calls Tryz.prog 128 #[.int .i64 n, .agg #[.int .i64 r.kind, .int .i64 r.k, .slice oa r.steps.length ca]] W fun e w' => e = .returned (.int .i64 1) ∧ Below W.heap.size W w') := KC
    clear KC hS0 hL0 hk
    go_enter Tryz.func104, Tryz.ntmps104
    go_wp2_with (go_at_call 128; refine (KC'.out _ hB.out).mono ?_; rintro e w1 ⟨rfl, hb1⟩)
    go_ret
    exact ⟨ret_bool hR.out.symm, hB.out.trans (hb1.mono hB.out.size)⟩
  | true =>
    rw [hk] at KC
    have KC' : Hid (∀ W, Below w.heap.size w W → Calls Tryz.prog 128 #[.int .i64 n, .agg #[.int .i64 r.kind, .int .i64 r.k, .slice oa r.steps.length ca]] W fun e w' => e = .returned (.int .i64 0) ∧ Below W.heap.size W w') := KC
    clear KC
    by_cases hln : (L.length : Int) ≤ n
    · have hris : ris n 0 r.steps = true := by
        simp [chk] at hk; exact hk.1.2
      have hnum : numF r.kind r.k r.steps.length = true := by
        simp [chk] at hk; exact hk.2
      obtain ⟨T, hT⟩ := ris_nat hris (Int.le_refl _)
      have hTl : T.length = r.steps.length := by rw [hT, ints_len]
      have hKn : r.kind = 1 ∨ r.kind = 2 ∨ r.kind = 3 ∨ r.kind = 4 ∨ r.kind = 5 := by
        unfold numF at hnum
        by_cases h1 : r.kind = 1 ∨ r.kind = 2
        · omega
        · rw [if_neg h1] at hnum
          by_cases h2 : r.kind = 3 ∨ r.kind = 4
          · omega
          · rw [if_neg h2] at hnum
            by_cases h3 : r.kind = 5
            · omega
            · rw [if_neg h3] at hnum; cases hnum
      have hR : Hid (early r n L = means r.kind r.k (labs L r.steps) (r.steps.length - (labs L r.steps).length)) := by show _ = _; unfold early; rw [hk, decide_eq_true hln]; rfl
      have KN : Hid (∀ W, Below w.heap.size w W → Calls Tryz.prog 130 #[.agg #[.int .i64 r.kind, .int .i64 r.k, .slice oa r.steps.length ca], .slice ob L.length cb] W fun e w' => e = .returned (cv r.k (mst (labs L r.steps)) (unl (labs L r.steps)) (r.steps.length - (labs L r.steps).length)) ∧ Below W.heap.size W w') := fun W hW => by
        have h1 := hS0.out.below hW (Nat.le_refl _)
        have h2 := hL0.out.below hW (Nat.le_refl _)
        rw [hT] at hris h1 hm ⊢
        rw [ints_len] at hm h1 ⊢
        exact countF r.kind r.k T L _ _ W h1 h2 (rise_of hris) (by omega)
      have KM := hide' fun W => meanings W
      have hun : unl (labs L r.steps) ≤ 1000000 := Nat.le_trans (unl_le _) (Nat.le_trans (labs_len _ _) (by omega))
      have hop : r.steps.length - (labs L r.steps).length ≤ 1000000 := by omega
      unfold means at hR
      unfold fnv at KM
      generalize mst (labs L r.steps) = mm at *
      generalize unl (labs L r.steps) = uu at *
      generalize r.steps.length - (labs L r.steps).length = oo at *
      have hln' : ¬ n < (L.length : Int) := by omega
      clear hris hnum hS0 hL0 hk hT hTl hln
      generalize r.steps.length = q at *
      generalize r.k = kk at *
      generalize r.kind = kd at *
      rcases hKn with rfl | rfl | rfl | rfl | rfl
      · have KF := hide' fun W => mApart kk mm uu oo W
        go_enter Tryz.func104, Tryz.ntmps104
        go_wp2_with (go_at_call 128; refine (KC'.out _ hB.out).mono ?_; rintro e w1 ⟨rfl, hb1⟩)
        have hb1' := hide' hb1
        have hB1 : Hid (Below w.heap.size w w1) := hB.out.trans (hb1.mono hB.out.size)
        have hbox : Hid (∀ V, Below w1.heap.size w1 V → V.cell? ⟨w.heap.size, 0, none⟩ = some (.int .i64 1) ∧ V.cell? ⟨w.heap.size, 1, none⟩ = some (.int .i64 kk) ∧ V.cell? ⟨w.heap.size, 2, none⟩ = some (.slice oa q ca)) := fun V hV => by
          have e : V.heap[w.heap.size]? = some (.cells #[.int .i64 1, .int .i64 kk, .slice oa q ca] 82) := by
            rw [hV.block _ (Nat.lt_of_lt_of_le (by simp) hb1'.out.size), hb1'.out.block _ (by simp)]
            exact heap_new w _
          simp [World.cell?, e]
        have hS := hide' (hbox.out w1.drew (Below.refl _ _).drew).1
        have hix := idx1
        clear hb1 KC'
        go_region_held3 (fun V => V.cell? ⟨w.heap.size, 0, none⟩ = some (.int .i64 1)) (first | (exact hS.out) | (exact (hbox.out _ hb2.out).1)) (first | (go_at_call 129; refine (KM.out _).mono ?_; rintro e w2 ⟨rfl, hb2'⟩; have hb2 : Hid (Below w1.heap.size w1 w2) := ((Below.refl _ _).drew.trans hb2'); clear hb2'))
        all_goals
          obtain ⟨x0, x1, x2⟩ := hbox.out _ hb2.out
          have hB2 : Hid (Below w.heap.size w w2) := hB1.out.trans (hb2.out.mono hB1.out.size)
          clear hS hbox hb1'
          go_wp2_with (first | (go_at_call 130; refine (KN.out _ hB2.out).mono ?_; rintro e w3 ⟨rfl, hb3⟩) | (go_at_call 148; refine (KF.out _).mono ?_; rintro e w4 ⟨rfl, hb4⟩))
          go_ret
          exact ⟨ret_bool (by rw [hR.out]; simp; try omega), (hB2.out.trans (hb3.mono hB2.out.size)).trans (hb4.mono (Nat.le_trans hB2.out.size hb3.size))⟩
      · have KF := hide' fun W => mSame kk mm uu oo W
        go_enter Tryz.func104, Tryz.ntmps104
        go_wp2_with (go_at_call 128; refine (KC'.out _ hB.out).mono ?_; rintro e w1 ⟨rfl, hb1⟩)
        have hb1' := hide' hb1
        have hB1 : Hid (Below w.heap.size w w1) := hB.out.trans (hb1.mono hB.out.size)
        have hbox : Hid (∀ V, Below w1.heap.size w1 V → V.cell? ⟨w.heap.size, 0, none⟩ = some (.int .i64 2) ∧ V.cell? ⟨w.heap.size, 1, none⟩ = some (.int .i64 kk) ∧ V.cell? ⟨w.heap.size, 2, none⟩ = some (.slice oa q ca)) := fun V hV => by
          have e : V.heap[w.heap.size]? = some (.cells #[.int .i64 2, .int .i64 kk, .slice oa q ca] 82) := by
            rw [hV.block _ (Nat.lt_of_lt_of_le (by simp) hb1'.out.size), hb1'.out.block _ (by simp)]
            exact heap_new w _
          simp [World.cell?, e]
        have hS := hide' (hbox.out w1.drew (Below.refl _ _).drew).1
        have hix := idx2
        clear hb1 KC'
        go_region_held3 (fun V => V.cell? ⟨w.heap.size, 0, none⟩ = some (.int .i64 2)) (first | (exact hS.out) | (exact (hbox.out _ hb2.out).1)) (first | (go_at_call 129; refine (KM.out _).mono ?_; rintro e w2 ⟨rfl, hb2'⟩; have hb2 : Hid (Below w1.heap.size w1 w2) := ((Below.refl _ _).drew.trans hb2'); clear hb2'))
        all_goals
          obtain ⟨x0, x1, x2⟩ := hbox.out _ hb2.out
          have hB2 : Hid (Below w.heap.size w w2) := hB1.out.trans (hb2.out.mono hB1.out.size)
          clear hS hbox hb1'
          go_wp2_with (first | (go_at_call 130; refine (KN.out _ hB2.out).mono ?_; rintro e w3 ⟨rfl, hb3⟩) | (go_at_call 149; refine (KF.out _).mono ?_; rintro e w4 ⟨rfl, hb4⟩))
          go_ret
          exact ⟨ret_bool (by rw [hR.out]; simp; try omega), (hB2.out.trans (hb3.mono hB2.out.size)).trans (hb4.mono (Nat.le_trans hB2.out.size hb3.size))⟩
      · have KF := hide' fun W => mMost kk mm uu oo W
        go_enter Tryz.func104, Tryz.ntmps104
        go_wp2_with (go_at_call 128; refine (KC'.out _ hB.out).mono ?_; rintro e w1 ⟨rfl, hb1⟩)
        have hb1' := hide' hb1
        have hB1 : Hid (Below w.heap.size w w1) := hB.out.trans (hb1.mono hB.out.size)
        have hbox : Hid (∀ V, Below w1.heap.size w1 V → V.cell? ⟨w.heap.size, 0, none⟩ = some (.int .i64 3) ∧ V.cell? ⟨w.heap.size, 1, none⟩ = some (.int .i64 kk) ∧ V.cell? ⟨w.heap.size, 2, none⟩ = some (.slice oa q ca)) := fun V hV => by
          have e : V.heap[w.heap.size]? = some (.cells #[.int .i64 3, .int .i64 kk, .slice oa q ca] 82) := by
            rw [hV.block _ (Nat.lt_of_lt_of_le (by simp) hb1'.out.size), hb1'.out.block _ (by simp)]
            exact heap_new w _
          simp [World.cell?, e]
        have hS := hide' (hbox.out w1.drew (Below.refl _ _).drew).1
        have hix := idx3
        clear hb1 KC'
        go_region_held3 (fun V => V.cell? ⟨w.heap.size, 0, none⟩ = some (.int .i64 3)) (first | (exact hS.out) | (exact (hbox.out _ hb2.out).1)) (first | (go_at_call 129; refine (KM.out _).mono ?_; rintro e w2 ⟨rfl, hb2'⟩; have hb2 : Hid (Below w1.heap.size w1 w2) := ((Below.refl _ _).drew.trans hb2'); clear hb2'))
        all_goals
          obtain ⟨x0, x1, x2⟩ := hbox.out _ hb2.out
          have hB2 : Hid (Below w.heap.size w w2) := hB1.out.trans (hb2.out.mono hB1.out.size)
          clear hS hbox hb1'
          go_wp2_with (first | (go_at_call 130; refine (KN.out _ hB2.out).mono ?_; rintro e w3 ⟨rfl, hb3⟩) | (go_at_call 150; refine (KF.out _).mono ?_; rintro e w4 ⟨rfl, hb4⟩))
          go_ret
          exact ⟨ret_bool (by rw [hR.out]; simp; try omega), (hB2.out.trans (hb3.mono hB2.out.size)).trans (hb4.mono (Nat.le_trans hB2.out.size hb3.size))⟩
      · have KF := hide' fun W => mFew kk mm uu oo W
        go_enter Tryz.func104, Tryz.ntmps104
        go_wp2_with (go_at_call 128; refine (KC'.out _ hB.out).mono ?_; rintro e w1 ⟨rfl, hb1⟩)
        have hb1' := hide' hb1
        have hB1 : Hid (Below w.heap.size w w1) := hB.out.trans (hb1.mono hB.out.size)
        have hbox : Hid (∀ V, Below w1.heap.size w1 V → V.cell? ⟨w.heap.size, 0, none⟩ = some (.int .i64 4) ∧ V.cell? ⟨w.heap.size, 1, none⟩ = some (.int .i64 kk) ∧ V.cell? ⟨w.heap.size, 2, none⟩ = some (.slice oa q ca)) := fun V hV => by
          have e : V.heap[w.heap.size]? = some (.cells #[.int .i64 4, .int .i64 kk, .slice oa q ca] 82) := by
            rw [hV.block _ (Nat.lt_of_lt_of_le (by simp) hb1'.out.size), hb1'.out.block _ (by simp)]
            exact heap_new w _
          simp [World.cell?, e]
        have hS := hide' (hbox.out w1.drew (Below.refl _ _).drew).1
        have hix := idx4
        clear hb1 KC'
        go_region_held3 (fun V => V.cell? ⟨w.heap.size, 0, none⟩ = some (.int .i64 4)) (first | (exact hS.out) | (exact (hbox.out _ hb2.out).1)) (first | (go_at_call 129; refine (KM.out _).mono ?_; rintro e w2 ⟨rfl, hb2'⟩; have hb2 : Hid (Below w1.heap.size w1 w2) := ((Below.refl _ _).drew.trans hb2'); clear hb2'))
        all_goals
          obtain ⟨x0, x1, x2⟩ := hbox.out _ hb2.out
          have hB2 : Hid (Below w.heap.size w w2) := hB1.out.trans (hb2.out.mono hB1.out.size)
          clear hS hbox hb1'
          go_wp2_with (first | (go_at_call 130; refine (KN.out _ hB2.out).mono ?_; rintro e w3 ⟨rfl, hb3⟩) | (go_at_call 151; refine (KF.out _).mono ?_; rintro e w4 ⟨rfl, hb4⟩))
          go_ret
          exact ⟨ret_bool (by rw [hR.out]; simp; try omega), (hB2.out.trans (hb3.mono hB2.out.size)).trans (hb4.mono (Nat.le_trans hB2.out.size hb3.size))⟩
      · have KF := hide' fun W => mMany kk mm uu oo hun hop W
        go_enter Tryz.func104, Tryz.ntmps104
        go_wp2_with (go_at_call 128; refine (KC'.out _ hB.out).mono ?_; rintro e w1 ⟨rfl, hb1⟩)
        have hb1' := hide' hb1
        have hB1 : Hid (Below w.heap.size w w1) := hB.out.trans (hb1.mono hB.out.size)
        have hbox : Hid (∀ V, Below w1.heap.size w1 V → V.cell? ⟨w.heap.size, 0, none⟩ = some (.int .i64 5) ∧ V.cell? ⟨w.heap.size, 1, none⟩ = some (.int .i64 kk) ∧ V.cell? ⟨w.heap.size, 2, none⟩ = some (.slice oa q ca)) := fun V hV => by
          have e : V.heap[w.heap.size]? = some (.cells #[.int .i64 5, .int .i64 kk, .slice oa q ca] 82) := by
            rw [hV.block _ (Nat.lt_of_lt_of_le (by simp) hb1'.out.size), hb1'.out.block _ (by simp)]
            exact heap_new w _
          simp [World.cell?, e]
        have hS := hide' (hbox.out w1.drew (Below.refl _ _).drew).1
        have hix := idx5
        clear hb1 KC'
        go_region_held3 (fun V => V.cell? ⟨w.heap.size, 0, none⟩ = some (.int .i64 5)) (first | (exact hS.out) | (exact (hbox.out _ hb2.out).1)) (first | (go_at_call 129; refine (KM.out _).mono ?_; rintro e w2 ⟨rfl, hb2'⟩; have hb2 : Hid (Below w1.heap.size w1 w2) := ((Below.refl _ _).drew.trans hb2'); clear hb2'))
        all_goals
          obtain ⟨x0, x1, x2⟩ := hbox.out _ hb2.out
          have hB2 : Hid (Below w.heap.size w w2) := hB1.out.trans (hb2.out.mono hB1.out.size)
          clear hS hbox hb1'
          go_wp2_with (first | (go_at_call 130; refine (KN.out _ hB2.out).mono ?_; rintro e w3 ⟨rfl, hb3⟩) | (go_at_call 152; refine (KF.out _).mono ?_; rintro e w4 ⟨rfl, hb4⟩))
          go_ret
          exact ⟨ret_bool (by rw [hR.out]; simp; try omega), (hB2.out.trans (hb3.mono hB2.out.size)).trans (hb4.mono (Nat.le_trans hB2.out.size hb3.size))⟩
    · have hR : Hid (early r n L = false) := by show _ = _; unfold early; rw [hk, decide_eq_false hln]; rfl
      have hln' : n < (L.length : Int) := by omega
      clear hS0 hL0 hk hln
      go_enter Tryz.func104, Tryz.ntmps104
      go_wp2_with (go_at_call 128; refine (KC'.out _ hB.out).mono ?_; rintro e w1 ⟨rfl, hb1⟩)
      go_ret
      exact ⟨ret_bool hR.out.symm, hB.out.trans (hb1.mono hB.out.size)⟩
end Go.Proofs.YtahfobbiaimoiaaGreatDoor
