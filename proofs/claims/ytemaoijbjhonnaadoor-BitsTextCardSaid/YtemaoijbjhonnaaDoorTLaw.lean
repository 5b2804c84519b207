/- BitsText answers true for every text and word, wherever the library's table lies as it is laid; it makes new memory alone. -/
import Derived.Test.YtemaoijbjhonnaaDoorTRef
import Derived.Test.YtemaoijbjhonnaaDoorWakes
import Derived.Deep.RegionHeld3
namespace Go.Proofs.YtemaoijbjhonnaaDoor
open Go.RowKit
theorem resP_lt (wd : Nat) (T : List UInt8) : (resP wd T).1 < 2 ^ wd := by
  unfold resP
  cases prs T with
  | none => exact Nat.two_pow_pos wd
  | some L =>
    simp only
    by_cases h : L.all (fun n => decide (n < wd)) = true
    · rw [if_pos h]
      exact orNs_lt fun n hn => by simpa using List.all_eq_true.1 h n hn
    · rw [if_neg h]; exact Nat.two_pow_pos wd
theorem cell_ovT {W W' : World} {b o : Nat} {v : Value} (h : W.cell? ⟨b, o, none⟩ = some v) (hb : Below W.heap.size W W') : W'.cell? ⟨b, o, none⟩ = some v := by
  have hlt : b < W.heap.size := by
    rcases Nat.lt_or_ge b W.heap.size with h1 | h1
    · exact h1
    · rw [World.cell?, show W.heap[b]? = none from Array.getElem?_eq_none h1] at h; cases h
  exact (hb.cell (p := ⟨b, o, none⟩) hlt).trans h
theorem bxo {W W' : World} {b : Nat} {t : TypeId} {v : Value} (h : Boxed W b t v) (hb : Below W.heap.size W W') : Boxed W' b t v := bxT h hb h.lt
set_option maxRecDepth 100000 in
set_option maxHeartbeats 8000000 in
theorem bitsText_walk (T : List UInt8) (hm : T.length ≤ 9223372036854775807) (A : Nat) (hA : A < 18446744073709551616) (w : World) (ht : Tab w) :
    Calls Tryd.prog 4 #[.string (bs T), .int .u64 A] w fun e w' => e = .returned (.bool true) ∧ Below w.heap.size w w' := by
  have KX : Hid (∀ W, Below w.heap.size w W → Calls Tryd.prog 13 #[.agg #[.int .u64 A]] W fun e W' => e = .returned (.string (bs (txt (nums A) ++ [125]))) ∧ Below W.heap.size W W') := fun W hW => text64 A hA W (ht.over hW)
  have KP0 : Hid (∀ W, Calls Tryd.prog 11 #[.agg #[.int .u64 0], .string (bs (txt (nums A) ++ [125]))] W fun e w' => e = .returned (.tuple #[.agg #[.int .u64 A], .int .i64 0]) ∧ Below W.heap.size W w') := fun W => by
    have h := parse64 (txt (nums A) ++ [125]) (by have := (txt_len (nums A)).2; have := nums_len A; rw [List.length_append, List.length_singleton]; omega) 0 W
    rw [resP_txt A hA] at h
    exact h
  have KP : Hid (∀ W, Calls Tryd.prog 11 #[.agg #[.int .u64 A], .string (bs T)] W fun e w' => e = .returned (.tuple #[.agg #[.int .u64 (resP 64 T).1], .int .i64 (resP 64 T).2]) ∧ Below W.heap.size W w') := fun W => parse64 T hm A W
  have KQ : Hid (∀ (a : Int) W, Calls Tryd.prog 17 #[.agg #[.int .u16 a], .string (bs T)] W fun e w' => e = .returned (.tuple #[.agg #[.int .u16 (resP 16 T).1], .int .i64 (resP 16 T).2]) ∧ Below W.heap.size W w') := fun a W => parse16 T hm a W
  have KR64 : Hid (∀ W, Calls Tryd.prog 15 #[.string (bs T), .int .i64 64] W fun e w' => e = .returned (.tuple #[.int .u64 (resP 64 T).1, .int .i64 (resP 64 T).2]) ∧ Below W.heap.size W w') := fun W => (refParse T hm 64 (by decide) W).mono fun e w' ⟨h, hw⟩ => ⟨h, by rw [hw]; exact Below.refl _ _⟩
  have KR16 : Hid (∀ W, Calls Tryd.prog 15 #[.string (bs T), .int .i64 16] W fun e w' => e = .returned (.tuple #[.int .u64 (resP 16 T).1, .int .i64 (resP 16 T).2]) ∧ Below W.heap.size W w') := fun W => (refParse T hm 16 (by decide) W).mono fun e w' ⟨h, hw⟩ => ⟨h, by rw [hw]; exact Below.refl _ _⟩
  have KW : Hid (∀ W, Below w.heap.size w W → Calls Tryd.prog 10 #[] W fun e w' => e = .returned (.bool true) ∧ Below W.heap.size W w') := fun W hW => wakes W (ht.over hW)
  have hl1 := resP_lt 64 T
  have hl2 := resP_lt 16 T
  generalize (resP 64 T).1 = x1 at *
  generalize (resP 64 T).2 = x2 at *
  generalize (resP 16 T).1 = y1 at *
  generalize (resP 16 T).2 = y2 at *
  generalize bs (txt (nums A) ++ [125]) = sA at *
  generalize bs T = s at *
  clear ht hm
  have hl1' : x1 < 18446744073709551616 := hl1
  have hl2' : y1 < 65536 := hl2
  clear hl1 hl2
  go_enter Tryd.func4, Tryd.ntmps4
  go_wp2
  have bZ : Hid (Boxed ((w.alloc (.cells #[.int .u64 0] 36)).alloc (.cells #[.int .u16 0] 39)) w.heap.size 36 (.int .u64 0)) := (Boxed.new w _ _).alloc _
  have bY : Hid (Boxed ((w.alloc (.cells #[.int .u64 0] 36)).alloc (.cells #[.int .u16 0] 39)) (w.heap.size + 1) 39 (.int .u16 0)) := by show Boxed _ _ _ _; have := Boxed.new (w.alloc (.cells #[.int .u64 0] 36)) 39 (.int .u16 0); simpa using this
  have hB0 : Hid (Below w.heap.size w ((w.alloc (.cells #[.int .u64 0] 36)).alloc (.cells #[.int .u16 0] 39))) := ((Below.refl _ w).alloc (Nat.le_refl _) _).alloc (by simp) _
  have z0 : w.heap.size + 1 + 1 ≤ ((w.alloc (.cells #[.int .u64 0] 36)).alloc (.cells #[.int .u16 0] 39)).heap.size := by simp
  generalize ((w.alloc (.cells #[.int .u64 0] 36)).alloc (.cells #[.int .u16 0] 39)) = W0 at *
  have cz0 := bZ.out.cell
  have bZa : Hid (Boxed W0.drew w.heap.size 36 (.int .u64 0)) := bZ.out
  have bYa : Hid (Boxed W0.drew (w.heap.size + 1) 39 (.int .u16 0)) := bY.out
  have hBa : Hid (Below w.heap.size w W0.drew) := hB0.out.drew
  have hWa : Hid (W0.heap.size ≤ W0.drew.heap.size) := Nat.le_refl _
  refine wp_region_held_drew (S := (fun V => V.cell? ⟨w.heap.size, 0, none⟩ = some (.int .u64 0))) (by kernel_rfl) ?_ (fun hHeld => ?_)
  · exact cz0
  refine wpAnyH_take (i := 0) (oi := { dst := some 13, op := Op.load 36 (Operand.tmp 5), type := 36, pos := "law.go:229", after := #[], guard := none }) (v := ?_) rfl (by kernel_rfl) (by kernel_rfl) (by kernel_rfl) (fun _ _ _ h => h) (Or.inl ⟨by rfl, ?_⟩) (by assumption) ?_
  rotate_left
  · intro w hSw; (try dsimp only at hSw); go_simp <;> with_reducible rfl
  simp only [Act.put, List.setIfInBounds_toArray, List.set_cons_zero, List.set_cons_succ]
  refine wpAnyH_take (i := 1) (oi := { dst := some 14, op := Op.load 36 (Operand.tmp 5), type := 36, pos := "law.go:229", after := #[], guard := none }) (v := ?_) rfl (by kernel_rfl) (by kernel_rfl) (by kernel_rfl) (fun _ _ _ h => h) (Or.inl ⟨by rfl, ?_⟩) (by assumption) ?_
  rotate_left
  · intro w hSw; (try dsimp only at hSw); go_simp <;> with_reducible rfl
  simp only [Act.put, List.setIfInBounds_toArray, List.set_cons_zero, List.set_cons_succ]
  refine wpAnyH_take (i := 2) (oi := { dst := some 15, op := Op.move (Operand.tmp 1), type := 22, pos := "law.go:229", after := #[], guard := none }) (v := ?_) rfl (by kernel_rfl) (by kernel_rfl) (by kernel_rfl) (fun _ _ _ h => h) (Or.inl ⟨by rfl, ?_⟩) (by assumption) ?_
  rotate_left
  · intro w hSw; (try dsimp only at hSw); go_simp <;> with_reducible rfl
  simp only [Act.put, List.setIfInBounds_toArray, List.set_cons_zero, List.set_cons_succ]
  refine wpAnyH_ready (rs := [3, 9]) (by kernel_rfl) (by simp) ?_
  refine AllReadyH.cons (o := { dst := some 16, op := Op.call { callee := Callee.value (Operand.func 12), args := #[Operand.tmp 14, Operand.tmp 15], argTypes := #[36, 22] }, type := 36, pos := "law.go:229", after := #[{ on := 1, ground := Ground.data }, { on := 2, ground := Ground.data }], guard := none }) rfl (fun K hK => ?_) ?_
  · skip
    go_simp
    refine (of64 _ _ _).mono ?_; rintro e w1 ⟨rfl, hb1⟩; (try dsimp only); have bZ1 := hideT (bxo bZa.out hb1); have bY1 := hideT (bxo bYa.out hb1); have hB1 := hideT (hBa.out.trans (hb1.mono hBa.out.size)); clear bZa bYa hBa; have bZa := bZ1; have bYa := bY1; have hBa := hB1; have hW1 := hideT (Nat.le_trans hWa.out hb1.size); clear hWa; have hWa := hW1
    refine hK.out _ _ ?_ (fun hHeld => ?_)
    · exact bZa.out.cell
    clear hK K
    try simp only [Act.put, List.setIfInBounds_toArray, List.set_cons_zero, List.set_cons_succ]
    refine wpAnyH_ready (rs := [4, 9]) (by kernel_rfl) (by simp) ?_
    refine AllReadyH.cons (o := { dst := some 17, op := Op.call { callee := Callee.value (Operand.func 13), args := #[Operand.tmp 16], argTypes := #[36] }, type := 9, pos := "law.go:229", after := #[{ on := 3, ground := Ground.data }, { on := 3, ground := Ground.chain }], guard := none }) rfl (fun K hK => ?_) ?_
    · skip
      go_simp
      refine (KX.out _ hBa.out).mono ?_; rintro e w2 ⟨rfl, hb2⟩; (try dsimp only); have bZ2 := hideT (bxo bZa.out hb2); have bY2 := hideT (bxo bYa.out hb2); have hB2 := hideT (hBa.out.trans (hb2.mono hBa.out.size)); clear bZa bYa hBa; have bZa := bZ2; have bYa := bY2; have hBa := hB2; have hW2 := hideT (Nat.le_trans hWa.out hb2.size); clear hWa; have hWa := hW2
      refine hK.out _ _ ?_ (fun hHeld => ?_)
      · exact bZa.out.cell
      clear hK K
      try simp only [Act.put, List.setIfInBounds_toArray, List.set_cons_zero, List.set_cons_succ]
      refine wpAnyH_ready (rs := [5, 9]) (by kernel_rfl) (by simp) ?_
      refine AllReadyH.cons (o := { dst := some 18, op := Op.call { callee := Callee.value (Operand.func 11), args := #[Operand.tmp 13, Operand.tmp 17], argTypes := #[36, 9] }, type := 41, pos := "law.go:229", after := #[{ on := 0, ground := Ground.data }, { on := 4, ground := Ground.data }, { on := 4, ground := Ground.chain }], guard := none }) rfl (fun K hK => ?_) ?_
      · skip
        go_simp
        refine (KP0.out _).mono ?_; rintro e w3 ⟨rfl, hb3⟩; (try dsimp only); have bZ3 := hideT (bxo bZa.out hb3); have bY3 := hideT (bxo bYa.out hb3); have hB3 := hideT (hBa.out.trans (hb3.mono hBa.out.size)); clear bZa bYa hBa; have bZa := bZ3; have bYa := bY3; have hBa := hB3; have hW3 := hideT (Nat.le_trans hWa.out hb3.size); clear hWa; have hWa := hW3
        refine hK.out _ _ ?_ (fun hHeld => ?_)
        · exact bZa.out.cell
        clear hK K
        try simp only [Act.put, List.setIfInBounds_toArray, List.set_cons_zero, List.set_cons_succ]
        refine wpAnyH_take (i := 6) (oi := { dst := some 12, op := Op.move (Operand.tmp 18), type := 41, pos := "law.go:229", after := #[{ on := 5, ground := Ground.data }], guard := none }) (v := ?_) rfl (by kernel_rfl) (by kernel_rfl) (by kernel_rfl) (fun _ _ _ h => h) (Or.inl ⟨by rfl, ?_⟩) (by assumption) ?_
        rotate_left
        · intro w hSw; (try dsimp only at hSw); go_simp <;> with_reducible rfl
        simp only [Act.put, List.setIfInBounds_toArray, List.set_cons_zero, List.set_cons_succ]
        refine wpAnyH_take (i := 7) (oi := { dst := some 19, op := Op.extract (Operand.tmp 12) 0, type := 36, pos := "law.go:229", after := #[{ on := 6, ground := Ground.data }], guard := none }) (v := ?_) rfl (by kernel_rfl) (by kernel_rfl) (by kernel_rfl) (fun _ _ _ h => h) (Or.inl ⟨by rfl, ?_⟩) (by assumption) ?_
        rotate_left
        · intro w hSw; (try dsimp only at hSw); go_simp <;> with_reducible rfl
        simp only [Act.put, List.setIfInBounds_toArray, List.set_cons_zero, List.set_cons_succ]
        refine wpAnyH_take (i := 8) (oi := { dst := some 20, op := Op.extract (Operand.tmp 12) 1, type := 40, pos := "law.go:229", after := #[{ on := 6, ground := Ground.data }, { on := 10, ground := Ground.gcOnly Departure.lateStores }], guard := none }) (v := ?_) rfl (by kernel_rfl) (by kernel_rfl) (by kernel_rfl) (fun _ _ _ h => h) (Or.inl ⟨by rfl, ?_⟩) (by assumption) ?_
        rotate_left
        · intro w hSw; (try dsimp only at hSw); go_simp <;> with_reducible rfl
        simp only [Act.put, List.setIfInBounds_toArray, List.set_cons_zero, List.set_cons_succ]
        refine wpAnyH_ready (rs := [9]) (by kernel_rfl) (by simp) ?_
        refine AllReadyH.cons (o := { dst := some 7, op := Op.alloc 36, type := 0, pos := "law.go:229", after := #[], guard := none }) rfl (fun K hK => ?_) AllReadyH.nil
        go_simp
        have bSa : Hid (Boxed (w3.alloc (.cells #[.int .u64 0] 36)) w3.heap.size 36 (.int .u64 0)) := Boxed.new _ _ _; have zS : Hid (w.heap.size + 1 + 1 ≤ w3.heap.size) := Nat.le_trans z0 hWa.out; have bZb := hideT (bZa.out.alloc (.cells #[.int .u64 0] 36)); have bYb := hideT (bYa.out.alloc (.cells #[.int .u64 0] 36)); have hBb := hideT (hBa.out.alloc hBa.out.size (.cells #[.int .u64 0] 36)); clear bZa bYa hBa; have bZa := bZb; have bYa := bYb; have hBa := hBb; have cSa := bSa.out.cell; have fSa := bSa.out.frozen
        refine hK.out _ _ ?_ (fun hHeld => ?_)
        · exact bZa.out.cell
        clear hK K
        try simp only [Act.put, List.setIfInBounds_toArray, List.set_cons_zero, List.set_cons_succ]
        refine wpAnyH_ready (rs := [10]) (by kernel_rfl) (by simp) ?_
        refine AllReadyH.cons (o := { dst := none, op := Op.store 36 (Operand.tmp 7) (Operand.tmp 19), type := 0, pos := "law.go:229", after := #[{ on := 9, ground := Ground.data }, { on := 7, ground := Ground.data }, { on := 5, ground := Ground.chain }, { on := 0, ground := Ground.phase }, { on := 1, ground := Ground.phase }, { on := 2, ground := Ground.phase }, { on := 3, ground := Ground.phase }, { on := 4, ground := Ground.phase }, { on := 5, ground := Ground.phase }, { on := 6, ground := Ground.phase }, { on := 7, ground := Ground.phase }, { on := 8, ground := Ground.textOnly Departure.lateStores }, { on := 9, ground := Ground.phase }], guard := none }) rfl (fun K hK => ?_) AllReadyH.nil
        go_simp
        refine hK.out _ _ ?_ (fun hHeld => ?_)
        · exact (bZ3.out.alloc _).cell
        clear hK K
        try simp only [Act.put, List.setIfInBounds_toArray, List.set_cons_zero, List.set_cons_succ]
        refine wpAnyH_take (i := 11) (oi := { dst := some 8, op := Op.assign (Operand.tmp 20), type := 40, pos := "law.go:229", after := #[{ on := 8, ground := Ground.data }, { on := 10, ground := Ground.chain }, { on := 0, ground := Ground.phase }, { on := 1, ground := Ground.phase }, { on := 2, ground := Ground.phase }, { on := 3, ground := Ground.phase }, { on := 4, ground := Ground.phase }, { on := 5, ground := Ground.phase }, { on := 6, ground := Ground.phase }, { on := 7, ground := Ground.phase }, { on := 8, ground := Ground.phase }, { on := 9, ground := Ground.phase }, { on := 10, ground := Ground.phase }], guard := none }) (v := ?_) rfl (by kernel_rfl) (by kernel_rfl) (by kernel_rfl) (fun _ _ _ h => h) (Or.inl ⟨by rfl, ?_⟩) (by assumption) ?_
        rotate_left
        · intro w hSw; (try dsimp only at hSw); go_simp <;> with_reducible rfl
        simp only [Act.put, List.setIfInBounds_toArray, List.set_cons_zero, List.set_cons_succ]
        refine wpAnyH_done (by kernel_rfl) ?_ _
        skip
        have bSb : Hid (Boxed (w3.alloc (.cells #[.int .u64 (A : Int)] 36)) w3.heap.size 36 (.int .u64 (A : Int))) := Boxed.new _ _ _
        have bZb := hideT (bZ3.out.alloc (.cells #[.int .u64 (A : Int)] 36))
        have bYb := hideT (bY3.out.alloc (.cells #[.int .u64 (A : Int)] 36))
        have hBb := hideT (hB3.out.alloc hB3.out.size (.cells #[.int .u64 (A : Int)] 36))
        clear bZa bYa hBa bSa cSa fSa hWa
        have zS := zS.out
        generalize w3.alloc (.cells #[.int .u64 (A : Int)] 36) = V at *
        generalize w3.heap.size = BS at *
        have cS := bSb.out.cell
        have hne : Hid (BS ≠ w.heap.size + 1) := by show BS ≠ _; omega
        clear hHeld
        go_wp2_with (first | (go_at_call_of 14 ((A : Nat) : Int); refine (word64 _ _).mono ?_; rintro e w4 ⟨rfl, hb4⟩; have bZ4 := hideT (bxo bZb.out hb4); have bY4 := hideT (bxo bYb.out hb4); have bS4 := hideT (bxo bSb.out hb4); have hB4 := hideT (hBb.out.trans (hb4.mono hBb.out.size)); have cz4 := bZ4.out.cell; clear hb4) | (go_at_call 12; refine (of64 _ _ _).mono ?_; rintro e w5 ⟨rfl, hb5⟩; have bY5 := hideT (bxo bY4.out hb5); have bS5 := hideT (bxo bS4.out hb5); have hB5 := hideT (hB4.out.trans (hb5.mono hB4.out.size)); clear hb5) | (go_at_call 11; refine (KP.out _).mono ?_; rintro e w6 ⟨rfl, hb6⟩; have bY6 := hideT ((bxo bY5.out hb6).other (B' := BS) hne.out.symm (.int .u64 (x1 : Int))); have bS6 := hideT (bxo bS5.out hb6); have bS6' := hideT (bS6.out.set (.int .u64 (x1 : Int))); have hB6 := hideT ((hB5.out.trans (hb6.mono hB5.out.size)).setCell (p := ⟨BS, 0, none⟩) (by show w.heap.size ≤ BS; omega) (.int .u64 (x1 : Int))); have cs6 := bS6.out.cell; have fs6 := bS6.out.frozen; clear hb6) | (go_at_call_of 15 (Value.int IntKind.i64 64); refine (KR64.out _).mono ?_; rintro e w7 ⟨rfl, hb7⟩; have bY7 := hideT (bxo bY6.out hb7); have bS7 := hideT (bxo bS6'.out hb7); have hB7 := hideT (hB6.out.trans (hb7.mono hB6.out.size)); have cs7 := bS7.out.cell; clear hb7) | (go_at_call_of 14 ((x1 : Nat) : Int); refine (word64 _ _).mono ?_; rintro e w8 ⟨rfl, hb8⟩; have bY8 := hideT (bxo bY7.out hb8); have hB8 := hideT (hB7.out.trans (hb8.mono hB7.out.size)); have cy8 := bY8.out.cell; clear hb8) | (go_at_call 16; refine (of16 _ _ _).mono ?_; rintro e w9 ⟨rfl, hb9⟩; have hB9 := hideT (hB8.out.trans (hb9.mono hB8.out.size)); clear hb9) | (go_at_call 17; refine (KQ.out _ _).mono ?_; rintro e w10 ⟨rfl, hb10⟩; have hB10 := hideT ((hB9.out.trans (hb10.mono hB9.out.size)).alloc (Nat.le_trans hB9.out.size hb10.size) (.cells #[.int .u16 (y1 : Int)] 39)); have bT := hideT (Boxed.new w10 39 (.int .u16 (y1 : Int))); clear hb10) | (go_at_call_of 15 (Value.int IntKind.i64 16); refine (KR16.out _).mono ?_; rintro e w11 ⟨rfl, hb11⟩; have bT11 := hideT (bxo bT.out hb11); have hB11 := hideT (hB10.out.trans (hb11.mono hB10.out.size)); have ct11 := bT11.out.cell; clear hb11) | (go_at_call 18; refine (word16 _ _).mono ?_; rintro e w12 ⟨rfl, hb12⟩; have hB12 := hideT (hB11.out.trans (hb12.mono hB11.out.size)); clear hb12) | (go_at_call 10; refine (KW.out _ hB12.out).mono ?_; rintro e w13 ⟨rfl, hb13⟩; have hB13 := hideT (hB12.out.trans (hb13.mono hB12.out.size)); clear hb13))
        go_ret
        exact ⟨rfl, hB13.out⟩
      refine AllReadyH.cons (o := { dst := some 7, op := Op.alloc 36, type := 0, pos := "law.go:229", after := #[], guard := none }) rfl (fun K hK => ?_) AllReadyH.nil
      go_simp
      have bSa : Hid (Boxed (w2.alloc (.cells #[.int .u64 0] 36)) w2.heap.size 36 (.int .u64 0)) := Boxed.new _ _ _; have zS : Hid (w.heap.size + 1 + 1 ≤ w2.heap.size) := Nat.le_trans z0 hWa.out; have bZb := hideT (bZa.out.alloc (.cells #[.int .u64 0] 36)); have bYb := hideT (bYa.out.alloc (.cells #[.int .u64 0] 36)); have hBb := hideT (hBa.out.alloc hBa.out.size (.cells #[.int .u64 0] 36)); clear bZa bYa hBa; have bZa := bZb; have bYa := bYb; have hBa := hBb; have cSa := bSa.out.cell; have fSa := bSa.out.frozen
      refine hK.out _ _ ?_ (fun hHeld => ?_)
      · exact bZa.out.cell
      clear hK K
      try simp only [Act.put, List.setIfInBounds_toArray, List.set_cons_zero, List.set_cons_succ]
      refine wpAnyH_ready (rs := [5]) (by kernel_rfl) (by simp) ?_
      refine AllReadyH.cons (o := { dst := some 18, op := Op.call { callee := Callee.value (Operand.func 11), args := #[Operand.tmp 13, Operand.tmp 17], argTypes := #[36, 9] }, type := 41, pos := "law.go:229", after := #[{ on := 0, ground := Ground.data }, { on := 4, ground := Ground.data }, { on := 4, ground := Ground.chain }], guard := none }) rfl (fun K hK => ?_) AllReadyH.nil
      go_simp
      refine (KP0.out _).mono ?_; rintro e w3 ⟨rfl, hb3⟩; (try dsimp only); have bZ3 := hideT (bxo bZa.out hb3); have bY3 := hideT (bxo bYa.out hb3); have hB3 := hideT (hBa.out.trans (hb3.mono hBa.out.size)); clear bZa bYa hBa; have bZa := bZ3; have bYa := bY3; have hBa := hB3; have hW3 := hideT (Nat.le_trans hWa.out (Nat.le_trans (by simp) hb3.size)); clear hWa; have hWa := hW3; have bS3 := hideT (bxo bSa.out hb3); clear bSa cSa fSa; have bSa := bS3; have cSa := bSa.out.cell; have fSa := bSa.out.frozen
      refine hK.out _ _ ?_ (fun hHeld => ?_)
      · exact bZa.out.cell
      clear hK K
      try simp only [Act.put, List.setIfInBounds_toArray, List.set_cons_zero, List.set_cons_succ]
      refine wpAnyH_take (i := 6) (oi := { dst := some 12, op := Op.move (Operand.tmp 18), type := 41, pos := "law.go:229", after := #[{ on := 5, ground := Ground.data }], guard := none }) (v := ?_) rfl (by kernel_rfl) (by kernel_rfl) (by kernel_rfl) (fun _ _ _ h => h) (Or.inl ⟨by rfl, ?_⟩) (by assumption) ?_
      rotate_left
      · intro w hSw; (try dsimp only at hSw); go_simp <;> with_reducible rfl
      simp only [Act.put, List.setIfInBounds_toArray, List.set_cons_zero, List.set_cons_succ]
      refine wpAnyH_take (i := 7) (oi := { dst := some 19, op := Op.extract (Operand.tmp 12) 0, type := 36, pos := "law.go:229", after := #[{ on := 6, ground := Ground.data }], guard := none }) (v := ?_) rfl (by kernel_rfl) (by kernel_rfl) (by kernel_rfl) (fun _ _ _ h => h) (Or.inl ⟨by rfl, ?_⟩) (by assumption) ?_
      rotate_left
      · intro w hSw; (try dsimp only at hSw); go_simp <;> with_reducible rfl
      simp only [Act.put, List.setIfInBounds_toArray, List.set_cons_zero, List.set_cons_succ]
      refine wpAnyH_take (i := 8) (oi := { dst := some 20, op := Op.extract (Operand.tmp 12) 1, type := 40, pos := "law.go:229", after := #[{ on := 6, ground := Ground.data }, { on := 10, ground := Ground.gcOnly Departure.lateStores }], guard := none }) (v := ?_) rfl (by kernel_rfl) (by kernel_rfl) (by kernel_rfl) (fun _ _ _ h => h) (Or.inl ⟨by rfl, ?_⟩) (by assumption) ?_
      rotate_left
      · intro w hSw; (try dsimp only at hSw); go_simp <;> with_reducible rfl
      simp only [Act.put, List.setIfInBounds_toArray, List.set_cons_zero, List.set_cons_succ]
      refine wpAnyH_ready (rs := [10]) (by kernel_rfl) (by simp) ?_
      refine AllReadyH.cons (o := { dst := none, op := Op.store 36 (Operand.tmp 7) (Operand.tmp 19), type := 0, pos := "law.go:229", after := #[{ on := 9, ground := Ground.data }, { on := 7, ground := Ground.data }, { on := 5, ground := Ground.chain }, { on := 0, ground := Ground.phase }, { on := 1, ground := Ground.phase }, { on := 2, ground := Ground.phase }, { on := 3, ground := Ground.phase }, { on := 4, ground := Ground.phase }, { on := 5, ground := Ground.phase }, { on := 6, ground := Ground.phase }, { on := 7, ground := Ground.phase }, { on := 8, ground := Ground.textOnly Departure.lateStores }, { on := 9, ground := Ground.phase }], guard := none }) rfl (fun K hK => ?_) AllReadyH.nil
      go_simp
      refine hK.out _ _ ?_ (fun hHeld => ?_)
      · exact (bZa.out.other (B' := w2.heap.size) (by have := zS.out; omega) _).cell
      clear hK K
      try simp only [Act.put, List.setIfInBounds_toArray, List.set_cons_zero, List.set_cons_succ]
      refine wpAnyH_take (i := 11) (oi := { dst := some 8, op := Op.assign (Operand.tmp 20), type := 40, pos := "law.go:229", after := #[{ on := 8, ground := Ground.data }, { on := 10, ground := Ground.chain }, { on := 0, ground := Ground.phase }, { on := 1, ground := Ground.phase }, { on := 2, ground := Ground.phase }, { on := 3, ground := Ground.phase }, { on := 4, ground := Ground.phase }, { on := 5, ground := Ground.phase }, { on := 6, ground := Ground.phase }, { on := 7, ground := Ground.phase }, { on := 8, ground := Ground.phase }, { on := 9, ground := Ground.phase }, { on := 10, ground := Ground.phase }], guard := none }) (v := ?_) rfl (by kernel_rfl) (by kernel_rfl) (by kernel_rfl) (fun _ _ _ h => h) (Or.inl ⟨by rfl, ?_⟩) (by assumption) ?_
      rotate_left
      · intro w hSw; (try dsimp only at hSw); go_simp <;> with_reducible rfl
      simp only [Act.put, List.setIfInBounds_toArray, List.set_cons_zero, List.set_cons_succ]
      refine wpAnyH_done (by kernel_rfl) ?_ _
      skip
      have bSb := hideT (bSa.out.set (.int .u64 (A : Int)))
      have bZb := hideT (bZa.out.other (B' := w2.heap.size) (by have := zS.out; omega) (.int .u64 (A : Int)))
      have bYb := hideT (bYa.out.other (B' := w2.heap.size) (by have := zS.out; omega) (.int .u64 (A : Int)))
      have hBb := hideT (hBa.out.setCell (p := ⟨w2.heap.size, 0, none⟩) (by show w.heap.size ≤ w2.heap.size; have := zS.out; omega) (.int .u64 (A : Int)))
      clear bZa bYa hBa bSa cSa fSa hWa
      have zS := zS.out
      generalize w3.setCell ⟨w2.heap.size, 0, none⟩ (.int .u64 (A : Int)) = V at *
      generalize w2.heap.size = BS at *
      have cS := bSb.out.cell
      have hne : Hid (BS ≠ w.heap.size + 1) := by show BS ≠ _; omega
      clear hHeld
      go_wp2_with (first | (go_at_call_of 14 ((A : Nat) : Int); refine (word64 _ _).mono ?_; rintro e w4 ⟨rfl, hb4⟩; have bZ4 := hideT (bxo bZb.out hb4); have bY4 := hideT (bxo bYb.out hb4); have bS4 := hideT (bxo bSb.out hb4); have hB4 := hideT (hBb.out.trans (hb4.mono hBb.out.size)); have cz4 := bZ4.out.cell; clear hb4) | (go_at_call 12; refine (of64 _ _ _).mono ?_; rintro e w5 ⟨rfl, hb5⟩; have bY5 := hideT (bxo bY4.out hb5); have bS5 := hideT (bxo bS4.out hb5); have hB5 := hideT (hB4.out.trans (hb5.mono hB4.out.size)); clear hb5) | (go_at_call 11; refine (KP.out _).mono ?_; rintro e w6 ⟨rfl, hb6⟩; have bY6 := hideT ((bxo bY5.out hb6).other (B' := BS) hne.out.symm (.int .u64 (x1 : Int))); have bS6 := hideT (bxo bS5.out hb6); have bS6' := hideT (bS6.out.set (.int .u64 (x1 : Int))); have hB6 := hideT ((hB5.out.trans (hb6.mono hB5.out.size)).setCell (p := ⟨BS, 0, none⟩) (by show w.heap.size ≤ BS; omega) (.int .u64 (x1 : Int))); have cs6 := bS6.out.cell; have fs6 := bS6.out.frozen; clear hb6) | (go_at_call_of 15 (Value.int IntKind.i64 64); refine (KR64.out _).mono ?_; rintro e w7 ⟨rfl, hb7⟩; have bY7 := hideT (bxo bY6.out hb7); have bS7 := hideT (bxo bS6'.out hb7); have hB7 := hideT (hB6.out.trans (hb7.mono hB6.out.size)); have cs7 := bS7.out.cell; clear hb7) | (go_at_call_of 14 ((x1 : Nat) : Int); refine (word64 _ _).mono ?_; rintro e w8 ⟨rfl, hb8⟩; have bY8 := hideT (bxo bY7.out hb8); have hB8 := hideT (hB7.out.trans (hb8.mono hB7.out.size)); have cy8 := bY8.out.cell; clear hb8) | (go_at_call 16; refine (of16 _ _ _).mono ?_; rintro e w9 ⟨rfl, hb9⟩; have hB9 := hideT (hB8.out.trans (hb9.mono hB8.out.size)); clear hb9) | (go_at_call 17; refine (KQ.out _ _).mono ?_; rintro e w10 ⟨rfl, hb10⟩; have hB10 := hideT ((hB9.out.trans (hb10.mono hB9.out.size)).alloc (Nat.le_trans hB9.out.size hb10.size) (.cells #[.int .u16 (y1 : Int)] 39)); have bT := hideT (Boxed.new w10 39 (.int .u16 (y1 : Int))); clear hb10) | (go_at_call_of 15 (Value.int IntKind.i64 16); refine (KR16.out _).mono ?_; rintro e w11 ⟨rfl, hb11⟩; have bT11 := hideT (bxo bT.out hb11); have hB11 := hideT (hB10.out.trans (hb11.mono hB10.out.size)); have ct11 := bT11.out.cell; clear hb11) | (go_at_call 18; refine (word16 _ _).mono ?_; rintro e w12 ⟨rfl, hb12⟩; have hB12 := hideT (hB11.out.trans (hb12.mono hB11.out.size)); clear hb12) | (go_at_call 10; refine (KW.out _ hB12.out).mono ?_; rintro e w13 ⟨rfl, hb13⟩; have hB13 := hideT (hB12.out.trans (hb13.mono hB12.out.size)); clear hb13))
      go_ret
      exact ⟨rfl, hB13.out⟩
    refine AllReadyH.cons (o := { dst := some 7, op := Op.alloc 36, type := 0, pos := "law.go:229", after := #[], guard := none }) rfl (fun K hK => ?_) AllReadyH.nil
    go_simp
    have bSa : Hid (Boxed (w1.alloc (.cells #[.int .u64 0] 36)) w1.heap.size 36 (.int .u64 0)) := Boxed.new _ _ _; have zS : Hid (w.heap.size + 1 + 1 ≤ w1.heap.size) := Nat.le_trans z0 hWa.out; have bZb := hideT (bZa.out.alloc (.cells #[.int .u64 0] 36)); have bYb := hideT (bYa.out.alloc (.cells #[.int .u64 0] 36)); have hBb := hideT (hBa.out.alloc hBa.out.size (.cells #[.int .u64 0] 36)); clear bZa bYa hBa; have bZa := bZb; have bYa := bYb; have hBa := hBb; have cSa := bSa.out.cell; have fSa := bSa.out.frozen
    refine hK.out _ _ ?_ (fun hHeld => ?_)
    · exact bZa.out.cell
    clear hK K
    try simp only [Act.put, List.setIfInBounds_toArray, List.set_cons_zero, List.set_cons_succ]
    refine wpAnyH_ready (rs := [4]) (by kernel_rfl) (by simp) ?_
    refine AllReadyH.cons (o := { dst := some 17, op := Op.call { callee := Callee.value (Operand.func 13), args := #[Operand.tmp 16], argTypes := #[36] }, type := 9, pos := "law.go:229", after := #[{ on := 3, ground := Ground.data }, { on := 3, ground := Ground.chain }], guard := none }) rfl (fun K hK => ?_) AllReadyH.nil
    go_simp
    refine (KX.out _ hBa.out).mono ?_; rintro e w2 ⟨rfl, hb2⟩; (try dsimp only); have bZ2 := hideT (bxo bZa.out hb2); have bY2 := hideT (bxo bYa.out hb2); have hB2 := hideT (hBa.out.trans (hb2.mono hBa.out.size)); clear bZa bYa hBa; have bZa := bZ2; have bYa := bY2; have hBa := hB2; have hW2 := hideT (Nat.le_trans hWa.out (Nat.le_trans (by simp) hb2.size)); clear hWa; have hWa := hW2; have bS2 := hideT (bxo bSa.out hb2); clear bSa cSa fSa; have bSa := bS2; have cSa := bSa.out.cell; have fSa := bSa.out.frozen
    refine hK.out _ _ ?_ (fun hHeld => ?_)
    · exact bZa.out.cell
    clear hK K
    try simp only [Act.put, List.setIfInBounds_toArray, List.set_cons_zero, List.set_cons_succ]
    refine wpAnyH_ready (rs := [5]) (by kernel_rfl) (by simp) ?_
    refine AllReadyH.cons (o := { dst := some 18, op := Op.call { callee := Callee.value (Operand.func 11), args := #[Operand.tmp 13, Operand.tmp 17], argTypes := #[36, 9] }, type := 41, pos := "law.go:229", after := #[{ on := 0, ground := Ground.data }, { on := 4, ground := Ground.data }, { on := 4, ground := Ground.chain }], guard := none }) rfl (fun K hK => ?_) AllReadyH.nil
    go_simp
    refine (KP0.out _).mono ?_; rintro e w3 ⟨rfl, hb3⟩; (try dsimp only); have bZ3 := hideT (bxo bZa.out hb3); have bY3 := hideT (bxo bYa.out hb3); have hB3 := hideT (hBa.out.trans (hb3.mono hBa.out.size)); clear bZa bYa hBa; have bZa := bZ3; have bYa := bY3; have hBa := hB3; have hW3 := hideT (Nat.le_trans hWa.out (Nat.le_trans (by simp) hb3.size)); clear hWa; have hWa := hW3; have bS3 := hideT (bxo bSa.out hb3); clear bSa cSa fSa; have bSa := bS3; have cSa := bSa.out.cell; have fSa := bSa.out.frozen
    refine hK.out _ _ ?_ (fun hHeld => ?_)
    · exact bZa.out.cell
    clear hK K
    try simp only [Act.put, List.setIfInBounds_toArray, List.set_cons_zero, List.set_cons_succ]
    refine wpAnyH_take (i := 6) (oi := { dst := some 12, op := Op.move (Operand.tmp 18), type := 41, pos := "law.go:229", after := #[{ on := 5, ground := Ground.data }], guard := none }) (v := ?_) rfl (by kernel_rfl) (by kernel_rfl) (by kernel_rfl) (fun _ _ _ h => h) (Or.inl ⟨by rfl, ?_⟩) (by assumption) ?_
    rotate_left
    · intro w hSw; (try dsimp only at hSw); go_simp <;> with_reducible rfl
    simp only [Act.put, List.setIfInBounds_toArray, List.set_cons_zero, List.set_cons_succ]
    refine wpAnyH_take (i := 7) (oi := { dst := some 19, op := Op.extract (Operand.tmp 12) 0, type := 36, pos := "law.go:229", after := #[{ on := 6, ground := Ground.data }], guard := none }) (v := ?_) rfl (by kernel_rfl) (by kernel_rfl) (by kernel_rfl) (fun _ _ _ h => h) (Or.inl ⟨by rfl, ?_⟩) (by assumption) ?_
    rotate_left
    · intro w hSw; (try dsimp only at hSw); go_simp <;> with_reducible rfl
    simp only [Act.put, List.setIfInBounds_toArray, List.set_cons_zero, List.set_cons_succ]
    refine wpAnyH_take (i := 8) (oi := { dst := some 20, op := Op.extract (Operand.tmp 12) 1, type := 40, pos := "law.go:229", after := #[{ on := 6, ground := Ground.data }, { on := 10, ground := Ground.gcOnly Departure.lateStores }], guard := none }) (v := ?_) rfl (by kernel_rfl) (by kernel_rfl) (by kernel_rfl) (fun _ _ _ h => h) (Or.inl ⟨by rfl, ?_⟩) (by assumption) ?_
    rotate_left
    · intro w hSw; (try dsimp only at hSw); go_simp <;> with_reducible rfl
    simp only [Act.put, List.setIfInBounds_toArray, List.set_cons_zero, List.set_cons_succ]
    refine wpAnyH_ready (rs := [10]) (by kernel_rfl) (by simp) ?_
    refine AllReadyH.cons (o := { dst := none, op := Op.store 36 (Operand.tmp 7) (Operand.tmp 19), type := 0, pos := "law.go:229", after := #[{ on := 9, ground := Ground.data }, { on := 7, ground := Ground.data }, { on := 5, ground := Ground.chain }, { on := 0, ground := Ground.phase }, { on := 1, ground := Ground.phase }, { on := 2, ground := Ground.phase }, { on := 3, ground := Ground.phase }, { on := 4, ground := Ground.phase }, { on := 5, ground := Ground.phase }, { on := 6, ground := Ground.phase }, { on := 7, ground := Ground.phase }, { on := 8, ground := Ground.textOnly Departure.lateStores }, { on := 9, ground := Ground.phase }], guard := none }) rfl (fun K hK => ?_) AllReadyH.nil
    go_simp
    refine hK.out _ _ ?_ (fun hHeld => ?_)
    · exact (bZa.out.other (B' := w1.heap.size) (by have := zS.out; omega) _).cell
    clear hK K
    try simp only [Act.put, List.setIfInBounds_toArray, List.set_cons_zero, List.set_cons_succ]
    refine wpAnyH_take (i := 11) (oi := { dst := some 8, op := Op.assign (Operand.tmp 20), type := 40, pos := "law.go:229", after := #[{ on := 8, ground := Ground.data }, { on := 10, ground := Ground.chain }, { on := 0, ground := Ground.phase }, { on := 1, ground := Ground.phase }, { on := 2, ground := Ground.phase }, { on := 3, ground := Ground.phase }, { on := 4, ground := Ground.phase }, { on := 5, ground := Ground.phase }, { on := 6, ground := Ground.phase }, { on := 7, ground := Ground.phase }, { on := 8, ground := Ground.phase }, { on := 9, ground := Ground.phase }, { on := 10, ground := Ground.phase }], guard := none }) (v := ?_) rfl (by kernel_rfl) (by kernel_rfl) (by kernel_rfl) (fun _ _ _ h => h) (Or.inl ⟨by rfl, ?_⟩) (by assumption) ?_
    rotate_left
    · intro w hSw; (try dsimp only at hSw); go_simp <;> with_reducible rfl
    simp only [Act.put, List.setIfInBounds_toArray, List.set_cons_zero, List.set_cons_succ]
    refine wpAnyH_done (by kernel_rfl) ?_ _
    skip
    have bSb := hideT (bSa.out.set (.int .u64 (A : Int)))
    have bZb := hideT (bZa.out.other (B' := w1.heap.size) (by have := zS.out; omega) (.int .u64 (A : Int)))
    have bYb := hideT (bYa.out.other (B' := w1.heap.size) (by have := zS.out; omega) (.int .u64 (A : Int)))
    have hBb := hideT (hBa.out.setCell (p := ⟨w1.heap.size, 0, none⟩) (by show w.heap.size ≤ w1.heap.size; have := zS.out; omega) (.int .u64 (A : Int)))
    clear bZa bYa hBa bSa cSa fSa hWa
    have zS := zS.out
    generalize w3.setCell ⟨w1.heap.size, 0, none⟩ (.int .u64 (A : Int)) = V at *
    generalize w1.heap.size = BS at *
    have cS := bSb.out.cell
    have hne : Hid (BS ≠ w.heap.size + 1) := by show BS ≠ _; omega
    clear hHeld
    go_wp2_with (first | (go_at_call_of 14 ((A : Nat) : Int); refine (word64 _ _).mono ?_; rintro e w4 ⟨rfl, hb4⟩; have bZ4 := hideT (bxo bZb.out hb4); have bY4 := hideT (bxo bYb.out hb4); have bS4 := hideT (bxo bSb.out hb4); have hB4 := hideT (hBb.out.trans (hb4.mono hBb.out.size)); have cz4 := bZ4.out.cell; clear hb4) | (go_at_call 12; refine (of64 _ _ _).mono ?_; rintro e w5 ⟨rfl, hb5⟩; have bY5 := hideT (bxo bY4.out hb5); have bS5 := hideT (bxo bS4.out hb5); have hB5 := hideT (hB4.out.trans (hb5.mono hB4.out.size)); clear hb5) | (go_at_call 11; refine (KP.out _).mono ?_; rintro e w6 ⟨rfl, hb6⟩; have bY6 := hideT ((bxo bY5.out hb6).other (B' := BS) hne.out.symm (.int .u64 (x1 : Int))); have bS6 := hideT (bxo bS5.out hb6); have bS6' := hideT (bS6.out.set (.int .u64 (x1 : Int))); have hB6 := hideT ((hB5.out.trans (hb6.mono hB5.out.size)).setCell (p := ⟨BS, 0, none⟩) (by show w.heap.size ≤ BS; omega) (.int .u64 (x1 : Int))); have cs6 := bS6.out.cell; have fs6 := bS6.out.frozen; clear hb6) | (go_at_call_of 15 (Value.int IntKind.i64 64); refine (KR64.out _).mono ?_; rintro e w7 ⟨rfl, hb7⟩; have bY7 := hideT (bxo bY6.out hb7); have bS7 := hideT (bxo bS6'.out hb7); have hB7 := hideT (hB6.out.trans (hb7.mono hB6.out.size)); have cs7 := bS7.out.cell; clear hb7) | (go_at_call_of 14 ((x1 : Nat) : Int); refine (word64 _ _).mono ?_; rintro e w8 ⟨rfl, hb8⟩; have bY8 := hideT (bxo bY7.out hb8); have hB8 := hideT (hB7.out.trans (hb8.mono hB7.out.size)); have cy8 := bY8.out.cell; clear hb8) | (go_at_call 16; refine (of16 _ _ _).mono ?_; rintro e w9 ⟨rfl, hb9⟩; have hB9 := hideT (hB8.out.trans (hb9.mono hB8.out.size)); clear hb9) | (go_at_call 17; refine (KQ.out _ _).mono ?_; rintro e w10 ⟨rfl, hb10⟩; have hB10 := hideT ((hB9.out.trans (hb10.mono hB9.out.size)).alloc (Nat.le_trans hB9.out.size hb10.size) (.cells #[.int .u16 (y1 : Int)] 39)); have bT := hideT (Boxed.new w10 39 (.int .u16 (y1 : Int))); clear hb10) | (go_at_call_of 15 (Value.int IntKind.i64 16); refine (KR16.out _).mono ?_; rintro e w11 ⟨rfl, hb11⟩; have bT11 := hideT (bxo bT.out hb11); have hB11 := hideT (hB10.out.trans (hb11.mono hB10.out.size)); have ct11 := bT11.out.cell; clear hb11) | (go_at_call 18; refine (word16 _ _).mono ?_; rintro e w12 ⟨rfl, hb12⟩; have hB12 := hideT (hB11.out.trans (hb12.mono hB11.out.size)); clear hb12) | (go_at_call 10; refine (KW.out _ hB12.out).mono ?_; rintro e w13 ⟨rfl, hb13⟩; have hB13 := hideT (hB12.out.trans (hb13.mono hB12.out.size)); clear hb13))
    go_ret
    exact ⟨rfl, hB13.out⟩
  refine AllReadyH.cons (o := { dst := some 7, op := Op.alloc 36, type := 0, pos := "law.go:229", after := #[], guard := none }) rfl (fun K hK => ?_) AllReadyH.nil
  go_simp
  have bSa : Hid (Boxed (W0.drew.alloc (.cells #[.int .u64 0] 36)) W0.heap.size 36 (.int .u64 0)) := Boxed.new _ _ _; have zS : Hid (w.heap.size + 1 + 1 ≤ W0.heap.size) := Nat.le_trans z0 hWa.out; have bZb := hideT (bZa.out.alloc (.cells #[.int .u64 0] 36)); have bYb := hideT (bYa.out.alloc (.cells #[.int .u64 0] 36)); have hBb := hideT (hBa.out.alloc hBa.out.size (.cells #[.int .u64 0] 36)); clear bZa bYa hBa; have bZa := bZb; have bYa := bYb; have hBa := hBb; have cSa := bSa.out.cell; have fSa := bSa.out.frozen
  refine hK.out _ _ ?_ (fun hHeld => ?_)
  · exact bZa.out.cell
  clear hK K
  try simp only [Act.put, List.setIfInBounds_toArray, List.set_cons_zero, List.set_cons_succ]
  refine wpAnyH_ready (rs := [3]) (by kernel_rfl) (by simp) ?_
  refine AllReadyH.cons (o := { dst := some 16, op := Op.call { callee := Callee.value (Operand.func 12), args := #[Operand.tmp 14, Operand.tmp 15], argTypes := #[36, 22] }, type := 36, pos := "law.go:229", after := #[{ on := 1, ground := Ground.data }, { on := 2, ground := Ground.data }], guard := none }) rfl (fun K hK => ?_) AllReadyH.nil
  go_simp
  refine (of64 _ _ _).mono ?_; rintro e w1 ⟨rfl, hb1⟩; (try dsimp only); have bZ1 := hideT (bxo bZa.out hb1); have bY1 := hideT (bxo bYa.out hb1); have hB1 := hideT (hBa.out.trans (hb1.mono hBa.out.size)); clear bZa bYa hBa; have bZa := bZ1; have bYa := bY1; have hBa := hB1; have hW1 := hideT (Nat.le_trans hWa.out (Nat.le_trans (by simp) hb1.size)); clear hWa; have hWa := hW1; have bS1 := hideT (bxo bSa.out hb1); clear bSa cSa fSa; have bSa := bS1; have cSa := bSa.out.cell; have fSa := bSa.out.frozen
  refine hK.out _ _ ?_ (fun hHeld => ?_)
  · exact bZa.out.cell
  clear hK K
  try simp only [Act.put, List.setIfInBounds_toArray, List.set_cons_zero, List.set_cons_succ]
  refine wpAnyH_ready (rs := [4]) (by kernel_rfl) (by simp) ?_
  refine AllReadyH.cons (o := { dst := some 17, op := Op.call { callee := Callee.value (Operand.func 13), args := #[Operand.tmp 16], argTypes := #[36] }, type := 9, pos := "law.go:229", after := #[{ on := 3, ground := Ground.data }, { on := 3, ground := Ground.chain }], guard := none }) rfl (fun K hK => ?_) AllReadyH.nil
  go_simp
  refine (KX.out _ hBa.out).mono ?_; rintro e w2 ⟨rfl, hb2⟩; (try dsimp only); have bZ2 := hideT (bxo bZa.out hb2); have bY2 := hideT (bxo bYa.out hb2); have hB2 := hideT (hBa.out.trans (hb2.mono hBa.out.size)); clear bZa bYa hBa; have bZa := bZ2; have bYa := bY2; have hBa := hB2; have hW2 := hideT (Nat.le_trans hWa.out (Nat.le_trans (by simp) hb2.size)); clear hWa; have hWa := hW2; have bS2 := hideT (bxo bSa.out hb2); clear bSa cSa fSa; have bSa := bS2; have cSa := bSa.out.cell; have fSa := bSa.out.frozen
  refine hK.out _ _ ?_ (fun hHeld => ?_)
  · exact bZa.out.cell
  clear hK K
  try simp only [Act.put, List.setIfInBounds_toArray, List.set_cons_zero, List.set_cons_succ]
  refine wpAnyH_ready (rs := [5]) (by kernel_rfl) (by simp) ?_
  refine AllReadyH.cons (o := { dst := some 18, op := Op.call { callee := Callee.value (Operand.func 11), args := #[Operand.tmp 13, Operand.tmp 17], argTypes := #[36, 9] }, type := 41, pos := "law.go:229", after := #[{ on := 0, ground := Ground.data }, { on := 4, ground := Ground.data }, { on := 4, ground := Ground.chain }], guard := none }) rfl (fun K hK => ?_) AllReadyH.nil
  go_simp
  refine (KP0.out _).mono ?_; rintro e w3 ⟨rfl, hb3⟩; (try dsimp only); have bZ3 := hideT (bxo bZa.out hb3); have bY3 := hideT (bxo bYa.out hb3); have hB3 := hideT (hBa.out.trans (hb3.mono hBa.out.size)); clear bZa bYa hBa; have bZa := bZ3; have bYa := bY3; have hBa := hB3; have hW3 := hideT (Nat.le_trans hWa.out (Nat.le_trans (by simp) hb3.size)); clear hWa; have hWa := hW3; have bS3 := hideT (bxo bSa.out hb3); clear bSa cSa fSa; have bSa := bS3; have cSa := bSa.out.cell; have fSa := bSa.out.frozen
  refine hK.out _ _ ?_ (fun hHeld => ?_)
  · exact bZa.out.cell
  clear hK K
  try simp only [Act.put, List.setIfInBounds_toArray, List.set_cons_zero, List.set_cons_succ]
  refine wpAnyH_take (i := 6) (oi := { dst := some 12, op := Op.move (Operand.tmp 18), type := 41, pos := "law.go:229", after := #[{ on := 5, ground := Ground.data }], guard := none }) (v := ?_) rfl (by kernel_rfl) (by kernel_rfl) (by kernel_rfl) (fun _ _ _ h => h) (Or.inl ⟨by rfl, ?_⟩) (by assumption) ?_
  rotate_left
  · intro w hSw; (try dsimp only at hSw); go_simp <;> with_reducible rfl
  simp only [Act.put, List.setIfInBounds_toArray, List.set_cons_zero, List.set_cons_succ]
  refine wpAnyH_take (i := 7) (oi := { dst := some 19, op := Op.extract (Operand.tmp 12) 0, type := 36, pos := "law.go:229", after := #[{ on := 6, ground := Ground.data }], guard := none }) (v := ?_) rfl (by kernel_rfl) (by kernel_rfl) (by kernel_rfl) (fun _ _ _ h => h) (Or.inl ⟨by rfl, ?_⟩) (by assumption) ?_
  rotate_left
  · intro w hSw; (try dsimp only at hSw); go_simp <;> with_reducible rfl
  simp only [Act.put, List.setIfInBounds_toArray, List.set_cons_zero, List.set_cons_succ]
  refine wpAnyH_take (i := 8) (oi := { dst := some 20, op := Op.extract (Operand.tmp 12) 1, type := 40, pos := "law.go:229", after := #[{ on := 6, ground := Ground.data }, { on := 10, ground := Ground.gcOnly Departure.lateStores }], guard := none }) (v := ?_) rfl (by kernel_rfl) (by kernel_rfl) (by kernel_rfl) (fun _ _ _ h => h) (Or.inl ⟨by rfl, ?_⟩) (by assumption) ?_
  rotate_left
  · intro w hSw; (try dsimp only at hSw); go_simp <;> with_reducible rfl
  simp only [Act.put, List.setIfInBounds_toArray, List.set_cons_zero, List.set_cons_succ]
  refine wpAnyH_ready (rs := [10]) (by kernel_rfl) (by simp) ?_
  refine AllReadyH.cons (o := { dst := none, op := Op.store 36 (Operand.tmp 7) (Operand.tmp 19), type := 0, pos := "law.go:229", after := #[{ on := 9, ground := Ground.data }, { on := 7, ground := Ground.data }, { on := 5, ground := Ground.chain }, { on := 0, ground := Ground.phase }, { on := 1, ground := Ground.phase }, { on := 2, ground := Ground.phase }, { on := 3, ground := Ground.phase }, { on := 4, ground := Ground.phase }, { on := 5, ground := Ground.phase }, { on := 6, ground := Ground.phase }, { on := 7, ground := Ground.phase }, { on := 8, ground := Ground.textOnly Departure.lateStores }, { on := 9, ground := Ground.phase }], guard := none }) rfl (fun K hK => ?_) AllReadyH.nil
  go_simp
  refine hK.out _ _ ?_ (fun hHeld => ?_)
  · exact (bZa.out.other (B' := W0.heap.size) (by have := zS.out; omega) _).cell
  clear hK K
  try simp only [Act.put, List.setIfInBounds_toArray, List.set_cons_zero, List.set_cons_succ]
  refine wpAnyH_take (i := 11) (oi := { dst := some 8, op := Op.assign (Operand.tmp 20), type := 40, pos := "law.go:229", after := #[{ on := 8, ground := Ground.data }, { on := 10, ground := Ground.chain }, { on := 0, ground := Ground.phase }, { on := 1, ground := Ground.phase }, { on := 2, ground := Ground.phase }, { on := 3, ground := Ground.phase }, { on := 4, ground := Ground.phase }, { on := 5, ground := Ground.phase }, { on := 6, ground := Ground.phase }, { on := 7, ground := Ground.phase }, { on := 8, ground := Ground.phase }, { on := 9, ground := Ground.phase }, { on := 10, ground := Ground.phase }], guard := none }) (v := ?_) rfl (by kernel_rfl) (by kernel_rfl) (by kernel_rfl) (fun _ _ _ h => h) (Or.inl ⟨by rfl, ?_⟩) (by assumption) ?_
  rotate_left
  · intro w hSw; (try dsimp only at hSw); go_simp <;> with_reducible rfl
  simp only [Act.put, List.setIfInBounds_toArray, List.set_cons_zero, List.set_cons_succ]
  refine wpAnyH_done (by kernel_rfl) ?_ _
  skip
  have bSb := hideT (bSa.out.set (.int .u64 (A : Int)))
  have bZb := hideT (bZa.out.other (B' := W0.heap.size) (by have := zS.out; omega) (.int .u64 (A : Int)))
  have bYb := hideT (bYa.out.other (B' := W0.heap.size) (by have := zS.out; omega) (.int .u64 (A : Int)))
  have hBb := hideT (hBa.out.setCell (p := ⟨W0.heap.size, 0, none⟩) (by show w.heap.size ≤ W0.heap.size; have := zS.out; omega) (.int .u64 (A : Int)))
  clear bZa bYa hBa bSa cSa fSa hWa
  have zS := zS.out
  generalize w3.setCell ⟨W0.heap.size, 0, none⟩ (.int .u64 (A : Int)) = V at *
  generalize W0.heap.size = BS at *
  have cS := bSb.out.cell
  have hne : Hid (BS ≠ w.heap.size + 1) := by show BS ≠ _; omega
  clear hHeld
  go_wp2_with (first | (go_at_call_of 14 ((A : Nat) : Int); refine (word64 _ _).mono ?_; rintro e w4 ⟨rfl, hb4⟩; have bZ4 := hideT (bxo bZb.out hb4); have bY4 := hideT (bxo bYb.out hb4); have bS4 := hideT (bxo bSb.out hb4); have hB4 := hideT (hBb.out.trans (hb4.mono hBb.out.size)); have cz4 := bZ4.out.cell; clear hb4) | (go_at_call 12; refine (of64 _ _ _).mono ?_; rintro e w5 ⟨rfl, hb5⟩; have bY5 := hideT (bxo bY4.out hb5); have bS5 := hideT (bxo bS4.out hb5); have hB5 := hideT (hB4.out.trans (hb5.mono hB4.out.size)); clear hb5) | (go_at_call 11; refine (KP.out _).mono ?_; rintro e w6 ⟨rfl, hb6⟩; have bY6 := hideT ((bxo bY5.out hb6).other (B' := BS) hne.out.symm (.int .u64 (x1 : Int))); have bS6 := hideT (bxo bS5.out hb6); have bS6' := hideT (bS6.out.set (.int .u64 (x1 : Int))); have hB6 := hideT ((hB5.out.trans (hb6.mono hB5.out.size)).setCell (p := ⟨BS, 0, none⟩) (by show w.heap.size ≤ BS; omega) (.int .u64 (x1 : Int))); have cs6 := bS6.out.cell; have fs6 := bS6.out.frozen; clear hb6) | (go_at_call_of 15 (Value.int IntKind.i64 64); refine (KR64.out _).mono ?_; rintro e w7 ⟨rfl, hb7⟩; have bY7 := hideT (bxo bY6.out hb7); have bS7 := hideT (bxo bS6'.out hb7); have hB7 := hideT (hB6.out.trans (hb7.mono hB6.out.size)); have cs7 := bS7.out.cell; clear hb7) | (go_at_call_of 14 ((x1 : Nat) : Int); refine (word64 _ _).mono ?_; rintro e w8 ⟨rfl, hb8⟩; have bY8 := hideT (bxo bY7.out hb8); have hB8 := hideT (hB7.out.trans (hb8.mono hB7.out.size)); have cy8 := bY8.out.cell; clear hb8) | (go_at_call 16; refine (of16 _ _ _).mono ?_; rintro e w9 ⟨rfl, hb9⟩; have hB9 := hideT (hB8.out.trans (hb9.mono hB8.out.size)); clear hb9) | (go_at_call 17; refine (KQ.out _ _).mono ?_; rintro e w10 ⟨rfl, hb10⟩; have hB10 := hideT ((hB9.out.trans (hb10.mono hB9.out.size)).alloc (Nat.le_trans hB9.out.size hb10.size) (.cells #[.int .u16 (y1 : Int)] 39)); have bT := hideT (Boxed.new w10 39 (.int .u16 (y1 : Int))); clear hb10) | (go_at_call_of 15 (Value.int IntKind.i64 16); refine (KR16.out _).mono ?_; rintro e w11 ⟨rfl, hb11⟩; have bT11 := hideT (bxo bT.out hb11); have hB11 := hideT (hB10.out.trans (hb11.mono hB10.out.size)); have ct11 := bT11.out.cell; clear hb11) | (go_at_call 18; refine (word16 _ _).mono ?_; rintro e w12 ⟨rfl, hb12⟩; have hB12 := hideT (hB11.out.trans (hb12.mono hB11.out.size)); clear hb12) | (go_at_call 10; refine (KW.out _ hB12.out).mono ?_; rintro e w13 ⟨rfl, hb13⟩; have hB13 := hideT (hB12.out.trans (hb13.mono hB12.out.size)); clear hb13))
  go_ret
  exact ⟨rfl, hB13.out⟩
end Go.Proofs.YtemaoijbjhonnaaDoor
