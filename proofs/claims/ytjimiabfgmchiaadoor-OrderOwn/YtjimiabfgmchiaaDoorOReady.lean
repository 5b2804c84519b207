/- Ready: what it answers. -/
import Derived.Test.YtjimiabfgmchiaaDoorORdy
import Derived.Test.YtjimiabfgmchiaaDoorBridge
namespace Go.Proofs.YtjimiabfgmchiaaDoor
open Go.RowKit Go.Shelf
attribute [local go_sem] Oper.semAt_some
/-- What k adds to what is ready. -/
def rdF (Pf : Nat → Nat) (d k : Nat) : Nat := if (Pf k &&& (18446744073709551615 - d) == 0) = true then 2 ^ k else 0
def rdW (n : Nat) (Pf : Nat → Nat) (d : Nat) : Nat := orAll (rdF Pf d) (nums ((2 ^ n - 1) &&& (18446744073709551615 - d)))
theorem rdF_lt (Pf : Nat → Nat) (d k : Nat) (hk : k < 64) : rdF Pf d k < 18446744073709551616 := by
  unfold rdF
  split
  · exact Nat.lt_of_lt_of_le (Nat.pow_lt_pow_right (by decide) hk) (by decide)
  · decide
theorem allw_lt {n : Nat} (h : n ≤ 64) : 2 ^ n - 1 < 18446744073709551616 := by
  have : (2 ^ n : Nat) ≤ 2 ^ 64 := Nat.pow_le_pow_right (by decide) h
  omega
theorem in_all {n y : Nat} {k : Fin 64} (h : k ∈ nums ((2 ^ n - 1) &&& y)) : k.val < n := by
  rw [mem_nums, Nat.testBit_and, Nat.testBit_two_pow_sub_one] at h
  rw [Bool.and_eq_true] at h
  simpa using h.1
theorem allSeq (x : Nat) (w : World) :
    Calls Tryd.prog 24 #[.agg #[.int .u64 x]] w fun e w' => ∃ b, e = .returned (.func (.func 50) #[] #[.pointer (some ⟨b, 0, none⟩)]) ∧ Boxed w' b 65 (.int .u64 x) ∧ w.heap.size ≤ b ∧ Below w.heap.size w w' :=
  (all64 x w).mono fun _ _ ⟨h1, h2⟩ => ⟨_, h1, by subst h2; exact ⟨Boxed.new _ _ _, Nat.le_refl _, (Below.refl _ _).alloc (Nat.le_refl _) _⟩⟩
theorem keepR {W0 W w1 : World} {b b' : Nat} {u v : Value} (h : W.cell? ⟨b, 0, none⟩ = some u ∧ W.cell? ⟨b', 0, none⟩ = some v ∧ Below W0.heap.size W0 W) (hb : Below W.heap.size W w1) :
    w1.cell? ⟨b, 0, none⟩ = some u ∧ w1.cell? ⟨b', 0, none⟩ = some v ∧ Below W0.heap.size W0 w1 :=
  ⟨cell_over h.1 hb, cell_over h.2.1 hb, h.2.2.trans (hb.mono h.2.2.size)⟩
section
variable {go gp gs n : Nat} {Pf Sf : Nat → Nat} {w : World}
set_option maxRecDepth 100000 in
set_option maxHeartbeats 400000 in
theorem readyC (ho : OrdAt w go gp gs n Pf Sf) (hn : n ≤ 64) (hP : ∀ a, a < n → Pf a < 18446744073709551616) (d : Nat) (hd : d < 18446744073709551616) (ht : Tab w) :
    CallsIn Fence.wide 9 Tryd.prog 28 #[.pointer (some ⟨go, 0, none⟩), .int .u64 d] w fun e W' => e = .returned (.int .u64 (rdW n Pf d : Int)) ∧ Below w.heap.size w W' := by
  have h3 := ht.2
  have hmx : Tryd.prog.follows Departure.mixedOrders = true := by kernel_rfl
  have hal := allw_lt hn
  have hx : ((2 ^ n - 1) &&& (18446744073709551615 - d)) < 18446744073709551616 := Nat.lt_of_le_of_lt Nat.and_le_left hal
  have hin : Hid (∀ k ∈ nums ((2 ^ n - 1) &&& (18446744073709551615 - d)), k.val < n) := fun k => in_all
  have KA : Hid (∀ W, Below w.heap.size w W → Calls Tryd.prog 29 #[.pointer (some ⟨go, 0, none⟩)] W fun e w' => e = .returned (.agg #[.int .u64 ((2 ^ n - 1 : Nat) : Int)]) ∧ Below W.heap.size W w') := fun W hB => allO (ho.over hB) hn
  have KM : Hid _ := minus64 (2 ^ n - 1) d hal hd
  have Hrd : Hid (rdW n Pf d = orAll (rdF Pf d) (nums ((2 ^ n - 1) &&& (18446744073709551615 - d)))) := rfl
  generalize hxe : ((2 ^ n - 1) &&& (18446744073709551615 - d)) = x at *
  generalize hae : 2 ^ n - 1 = al at *
  clear hxe hae
  refine callsIn_of_wp_marks Tryd.func28 rfl trivial ?_ rfl
  refine wpIn_wide.2 ?_
  simp only [Tryd.ntmps28, List.size_toArray, List.length_cons, List.length_nil, Nat.reduceAdd, Nat.reduceSub, Array.replicate_succ, Array.replicate_zero, List.push_toArray, List.append_toArray, List.nil_append, List.cons_append]
  go_wp2
  have hB0 : Below w.heap.size w (((w.alloc (.cells #[.pointer (some ⟨go, 0, none⟩)] 31)).alloc (.cells #[.int .u64 d] 23)).alloc (.cells #[.int .u64 0] 65)) := (((Below.refl _ w).alloc (Nat.le_refl _) _).alloc (by simp) _).alloc (by simp; omega) _
  have bO := ((Boxed.new w 31 (.pointer (some ⟨go, 0, none⟩))).alloc (.cells #[.int .u64 d] 23)).alloc (.cells #[.int .u64 0] 65)
  have bD := (Boxed.new (w.alloc (.cells #[.pointer (some ⟨go, 0, none⟩)] 31)) 23 (.int .u64 d)).alloc (.cells #[.int .u64 0] 65)
  have bR := Boxed.new ((w.alloc (.cells #[.pointer (some ⟨go, 0, none⟩)] 31)).alloc (.cells #[.int .u64 d] 23)) 65 (.int .u64 0)
  simp only [World.size_alloc] at bD bR
  generalize hW0 : (((w.alloc (.cells #[.pointer (some ⟨go, 0, none⟩)] 31)).alloc (.cells #[.int .u64 d] 23)).alloc (.cells #[.int .u64 0] 65)) = W0 at *
  have hs0 : w.heap.size + 1 + 1 < W0.heap.size := by rw [← hW0]; simp
  clear hW0
  have hk0 : Hid (W0.cell? ⟨w.heap.size, 0, none⟩ = some (.pointer (some ⟨go, 0, none⟩)) ∧ W0.cell? ⟨w.heap.size + 1, 0, none⟩ = some (.int .u64 d) ∧ Below W0.heap.size W0 W0) := ⟨bO.cell, bD.cell, Below.refl _ _⟩
  have KA' : Hid (∀ W, Below W0.heap.size W0 W → Calls Tryd.prog 29 #[.pointer (some ⟨go, 0, none⟩)] W fun e w' => e = .returned (.agg #[.int .u64 (al : Int)]) ∧ Below W.heap.size W w') := fun W hB => KA.out W (hB0.trans (hB.mono hB0.size))
  go_region_held3 (fun W => W.cell? ⟨w.heap.size, 0, none⟩ = some (.pointer (some ⟨go, 0, none⟩)) ∧ W.cell? ⟨w.heap.size + 1, 0, none⟩ = some (.int .u64 d) ∧ Below W0.heap.size W0 W) (first | (exact keepR (by assumption) hb) | (exact keepR (keepR hk0.out (Below.refl _ _).drew) hb) | (exact keepR hk0.out (Below.refl _ _).drew) | (exact hk0.out)) (first | (go_at_call 29; refine (KA'.out _ (by first | exact ‹_ ∧ _ ∧ _›.2.2 | exact (Below.refl _ _).drew)).mono ?_; rintro e w1 ⟨rfl, hb⟩) | (go_at_call 30; refine (ofO _ _).mono ?_; rintro e w1 ⟨rfl, hb⟩) | (go_at_call 54; refine (KM.out _).mono ?_; rintro e w1 ⟨rfl, hb⟩) | (go_at_call 24; refine (allSeq x _).mono ?_; rintro e w1 ⟨bb, rfl, hbox, hbb, hb⟩; have hq : W0.heap.size ≤ bb := Nat.le_trans (Below.size ‹_ ∧ _ ∧ _›.2.2) hbb))
  all_goals go_wp2
  have hS := ‹w1.cell? ⟨w.heap.size, 0, none⟩ = some (.pointer (some ⟨go, 0, none⟩)) ∧ w1.cell? ⟨w.heap.size + 1, 0, none⟩ = some (.int .u64 d) ∧ Below W0.heap.size W0 w1›.2.2
  have hB1 : Below w.heap.size w w1 := hB0.trans (hS.mono hB0.size)
  have bO1 := bxb bO hS (by omega)
  have bD1 := bxb bD hS (by omega)
  have bR1 := bxb bR hS (by omega)
  have z1 := hbox.lt
  clear KA KA' KM hS bO bD bR hb hk0 hal hbb
  refine (wpIn_wide (n := 9)).1 ?_
  refine wpIn_rangeFunc_ownG rfl (by decide) (gf := 50) (lb := #[.pointer (some ⟨bb, 0, none⟩)]) rfl trivial (enters_of Tryd.func50 (by kernel_rfl) rfl)
    (all_mem 8 bb x hx w1 z1 (ht.over hB1) hbox.cell) KpB.t (KpB.b z1 (by omega)) (Below.refl _ _) (fun _ => rfl)
    (fun pre W => Boxed W w.heap.size 31 (.pointer (some ⟨go, 0, none⟩)) ∧ Boxed W (w.heap.size + 1) 23 (.int .u64 d) ∧ Boxed W (w.heap.size + 1 + 1) 65 (.int .u64 (orAll (rdF Pf d) (plain pre) : Int)) ∧ Boxed W bb 65 (.int .u64 x) ∧ Below w.heap.size w W)
    (fun _ _ _ => False)
    (OwnFrom.and (Own.from (boxed_own _ _ _) _) (OwnFrom.and (Own.from (boxed_own _ _ _) _) (OwnFrom.and (Own.from (boxed_own _ _ (fun pre => .int .u64 (orAll (rdF Pf d) (plain pre) : Int))) _) (OwnFrom.and (Own.from (boxed_own _ _ _) _) (ownFrom_below (Nat.le_refl _) (by omega))))))
    (fun _ _ _ _ _ hs _ _ => hs)
    ⟨bO1, bD1, bR1, hbox, hB1⟩
    (fun j => { tmps := #[.pointer (some ⟨go, 0, none⟩), .int .u64 d, .pointer (some ⟨w.heap.size, 0, none⟩), .pointer (some ⟨w.heap.size + 1, 0, none⟩), .int .u64 0, .pointer (some ⟨w.heap.size + 1 + 1, 0, none⟩), .int .i64 (j.val.val : Int), .pointer (some ⟨go, 0, none⟩), .agg #[.int .u64 al], .int .u64 d, .agg #[.int .u64 d], .agg #[.int .u64 x], .func (.func 50) #[] #[.pointer (some ⟨bb, 0, none⟩)], .int .i64 (j.val.val : Int), undef, undef, undef, undef, undef, undef, undef, undef, undef, undef, undef, undef, undef, undef, undef, undef], defers := [] }) ?assign ?body ?done ?stop
  case assign =>
    intro l j W K hK
    gi_wp2
    exact hK
  case body =>
    rintro l pre k W ⟨b0, b1, b2, b4, hB⟩ hlt
    have hkn := hin.out k.val k.property
    have hk64 := k.val.isLt
    have hWs := hB.size
    have z4 := b4.lt
    have c0 := b0.cell
    have c1 := cell_over ho.o0 hB
    have c2 := cell_over (ho.pc k.val.val hkn) hB
    have c3 := b1.cell
    have hacc : orAll (rdF Pf d) (plain pre) < 18446744073709551616 := orAll_lt fun j _ => rdF_lt Pf d j.val j.isLt
    have hsn : Hid (orAll (rdF Pf d) (plain (pre ++ [k])) = orAll (rdF Pf d) (plain pre) ||| rdF Pf d k.val.val) := by show _ = _; rw [plain_snoc, orAll_snoc]
    have hpk := hP k.val.val hkn
    have KS := sub64 (Pf k.val.val) d hpk hd
    have KY := hide' (onlyO k.val.val hk64)
    have hpw : (2 ^ k.val.val : Nat) < 18446744073709551616 := Nat.lt_of_lt_of_le (Nat.pow_lt_pow_right (by decide) hk64) (by decide)
    have KO := hide' (or64 (orAll (rdF Pf d) (plain pre)) (2 ^ k.val.val) hacc hpw)
    have hrd : Hid (rdF Pf d k.val.val = if (Pf k.val.val &&& (18446744073709551615 - d) == 0) = true then 2 ^ k.val.val else 0) := rfl
    generalize rdF Pf d k.val.val = rk at *
    generalize orAll (rdF Pf d) (plain pre) = acc at *
    generalize (Pf k.val.val &&& (18446744073709551615 - d) == 0) = t at *
    generalize Pf k.val.val = pk at *
    generalize 2 ^ k.val.val = pw at *
    generalize k.val.val = kk at *
    clear ho hP hin hlt bO1 bD1 bR1 hbox hx
    cases t with
    | false =>
      have KS' := hide' KS
      clear KS
      gi_wp2
      refine region_round (fun V => V.cell? ⟨w.heap.size, 0, none⟩ = some (.pointer (some ⟨go, 0, none⟩)) ∧ V.cell? ⟨go, 0, none⟩ = some (.slice (some ⟨gp, 0, none⟩) n n) ∧ V.cell? ⟨gp, kk, none⟩ = some (.int .u64 (pk : Int)) ∧ V.cell? ⟨w.heap.size + 1, 0, none⟩ = some (.int .u64 (d : Int)) ∧ Below W.heap.size W V) hmx (noDefer_of (by kernel_rfl)) ?_ (fun hHeld => ?_)
      · exact ⟨c0, c1, c2, c3, (Below.refl _ _).drew⟩
      refine wpAnyH_take (i := 0) (oi := { dst := some 14, op := Op.load 31 (Operand.tmp 2), type := 31, pos := "sets.go:9", after := #[], guard := none }) (v := ?_) rfl (by kernel_rfl) (by kernel_rfl) (by kernel_rfl) (fun _ _ _ h => h) (Or.inl ⟨by rfl, ?_⟩) (by assumption) ?_
      rotate_left
      · intro w hSw; (try dsimp only at hSw); go_simp <;> with_reducible rfl
      simp only [Act.put, List.setIfInBounds_toArray, List.set_cons_zero, List.set_cons_succ]
      refine wpAnyH_take (i := 1) (oi := { dst := some 15, op := Op.nilCheck (Operand.tmp 14), type := 0, pos := "sets.go:9", after := #[{ on := 0, ground := Ground.data }], guard := none }) (v := ?_) rfl (by kernel_rfl) (by kernel_rfl) (by kernel_rfl) (fun _ _ _ h => h) (Or.inl ⟨by rfl, ?_⟩) (by assumption) ?_
      rotate_left
      · intro w hSw; (try dsimp only at hSw); go_simp <;> with_reducible rfl
      simp only [Act.put, List.setIfInBounds_toArray, List.set_cons_zero, List.set_cons_succ]
      refine wpAnyH_take (i := 2) (oi := { dst := some 16, op := Op.fieldAddr 63 (Operand.tmp 15) 0, type := 0, pos := "sets.go:9", after := #[{ on := 1, ground := Ground.data }], guard := none }) (v := ?_) rfl (by kernel_rfl) (by kernel_rfl) (by kernel_rfl) (fun _ _ _ h => h) (Or.inl ⟨by rfl, ?_⟩) (by assumption) ?_
      rotate_left
      · intro w hSw; (try dsimp only at hSw); go_simp <;> with_reducible rfl
      simp only [Act.put, List.setIfInBounds_toArray, List.set_cons_zero, List.set_cons_succ]
      refine wpAnyH_take (i := 3) (oi := { dst := some 17, op := Op.load 61 (Operand.tmp 16), type := 61, pos := "sets.go:9", after := #[{ on := 2, ground := Ground.data }], guard := none }) (v := ?_) rfl (by kernel_rfl) (by kernel_rfl) (by kernel_rfl) (fun _ _ _ h => h) (Or.inl ⟨by rfl, ?_⟩) (by assumption) ?_
      rotate_left
      · intro w hSw; (try dsimp only at hSw); go_simp <;> with_reducible rfl
      simp only [Act.put, List.setIfInBounds_toArray, List.set_cons_zero, List.set_cons_succ]
      refine wpAnyH_take (i := 4) (oi := { dst := some 18, op := Op.move (Operand.tmp 6), type := 3, pos := "sets.go:9", after := #[], guard := none }) (v := ?_) rfl (by kernel_rfl) (by kernel_rfl) (by kernel_rfl) (fun _ _ _ h => h) (Or.inl ⟨by rfl, ?_⟩) (by assumption) ?_
      rotate_left
      · intro w hSw; (try dsimp only at hSw); go_simp <;> with_reducible rfl
      simp only [Act.put, List.setIfInBounds_toArray, List.set_cons_zero, List.set_cons_succ]
      refine wpAnyH_take (i := 5) (oi := { dst := some 19, op := Op.indexAddr 61 (Operand.tmp 17) (Operand.tmp 18), type := 0, pos := "sets.go:9", after := #[{ on := 3, ground := Ground.data }, { on := 4, ground := Ground.data }], guard := none }) (v := ?_) rfl (by kernel_rfl) (by kernel_rfl) (by kernel_rfl) (fun _ _ _ h => h) (Or.inl ⟨by rfl, ?_⟩) (by assumption) ?_
      rotate_left
      · intro w hSw; (try dsimp only at hSw); go_simp <;> with_reducible rfl
      simp only [Act.put, List.setIfInBounds_toArray, List.set_cons_zero, List.set_cons_succ]
      refine wpAnyH_take (i := 6) (oi := { dst := some 20, op := Op.load 65 (Operand.tmp 19), type := 65, pos := "sets.go:9", after := #[{ on := 5, ground := Ground.data }], guard := none }) (v := ?_) rfl (by kernel_rfl) (by kernel_rfl) (by kernel_rfl) (fun _ _ _ h => h) (Or.inl ⟨by rfl, ?_⟩) (by assumption) ?_
      rotate_left
      · intro w hSw; (try dsimp only at hSw); go_simp <;> with_reducible rfl
      simp only [Act.put, List.setIfInBounds_toArray, List.set_cons_zero, List.set_cons_succ]
      refine wpAnyH_take (i := 7) (oi := { dst := some 21, op := Op.load 23 (Operand.tmp 3), type := 23, pos := "sets.go:9", after := #[], guard := none }) (v := ?_) rfl (by kernel_rfl) (by kernel_rfl) (by kernel_rfl) (fun _ _ _ h => h) (Or.inl ⟨by rfl, ?_⟩) (by assumption) ?_
      rotate_left
      · intro w hSw; (try dsimp only at hSw); go_simp <;> with_reducible rfl
      simp only [Act.put, List.setIfInBounds_toArray, List.set_cons_zero, List.set_cons_succ]
      refine wpAnyH_ready (rs := [8]) (by kernel_rfl) (by simp) ?_
      refine AllReadyH.cons (o := { dst := some 22, op := Op.call { callee := Callee.value (Operand.func 30), args := #[Operand.tmp 21], argTypes := #[23] }, type := 65, pos := "sets.go:9", after := #[{ on := 7, ground := Ground.data }], guard := none }) rfl (fun K hK => ?_) AllReadyH.nil
      go_simp
      refine (ofO _ _).mono ?_; rintro e w2 ⟨rfl, hb⟩; (try dsimp only)
      refine hK.out _ _ ?_ (fun hHeld => ?_)
      · exact ⟨cell_over hHeld.1 hb, cell_over hHeld.2.1 hb, cell_over hHeld.2.2.1 hb, cell_over hHeld.2.2.2.1 hb, hHeld.2.2.2.2.trans (hb.mono hHeld.2.2.2.2.size)⟩
      clear hK K
      try simp only [Act.put, List.setIfInBounds_toArray, List.set_cons_zero, List.set_cons_succ]
      refine wpAnyH_ready (rs := [9]) (by kernel_rfl) (by simp) ?_
      refine AllReadyH.cons (o := { dst := some 23, op := Op.call { callee := Callee.value (Operand.func 55), args := #[Operand.tmp 20, Operand.tmp 22], argTypes := #[65, 65] }, type := 4, pos := "sets.go:9", after := #[{ on := 6, ground := Ground.data }, { on := 8, ground := Ground.data }, { on := 8, ground := Ground.chain }], guard := none }) rfl (fun K hK => ?_) AllReadyH.nil
      go_simp
      refine (KS'.out _).mono ?_; rintro e w3 ⟨rfl, hb⟩; (try dsimp only)
      refine hK.out _ _ ?_ (fun hHeld => ?_)
      · exact ⟨cell_over hHeld.1 hb, cell_over hHeld.2.1 hb, cell_over hHeld.2.2.1 hb, cell_over hHeld.2.2.2.1 hb, hHeld.2.2.2.2.trans (hb.mono hHeld.2.2.2.2.size)⟩
      clear hK K
      try simp only [Act.put, List.setIfInBounds_toArray, List.set_cons_zero, List.set_cons_succ]
      refine wpAnyH_done (by kernel_rfl) ?_ _
      unfold onlyNormal
      gi_wp2
      have hBV : Below W.heap.size W w3 := hHeld.2.2.2.2
      exact ⟨(keepsO hBV).from _, ⟨hBV.cell (p := ⟨bb, 0, none⟩) z4, fun h => h.over hBV⟩, bxb b0 hBV (by omega), bxb b1 hBV (by omega), by rw [hsn.out, hrd.out]; simp only [Bool.false_eq_true, if_false, Nat.or_zero]; exact bxb b2 hBV (by omega), bxb b4 hBV z4, hB.trans (hBV.mono hWs)⟩
    | true =>
      have KS' := hide' KS
      clear KS
      gi_wp2
      refine region_round (fun V => V.cell? ⟨w.heap.size, 0, none⟩ = some (.pointer (some ⟨go, 0, none⟩)) ∧ V.cell? ⟨go, 0, none⟩ = some (.slice (some ⟨gp, 0, none⟩) n n) ∧ V.cell? ⟨gp, kk, none⟩ = some (.int .u64 (pk : Int)) ∧ V.cell? ⟨w.heap.size + 1, 0, none⟩ = some (.int .u64 (d : Int)) ∧ Below W.heap.size W V) hmx (noDefer_of (by kernel_rfl)) ?_ (fun hHeld => ?_)
      · exact ⟨c0, c1, c2, c3, (Below.refl _ _).drew⟩
      refine wpAnyH_take (i := 0) (oi := { dst := some 14, op := Op.load 31 (Operand.tmp 2), type := 31, pos := "sets.go:9", after := #[], guard := none }) (v := ?_) rfl (by kernel_rfl) (by kernel_rfl) (by kernel_rfl) (fun _ _ _ h => h) (Or.inl ⟨by rfl, ?_⟩) (by assumption) ?_
      rotate_left
      · intro w hSw; (try dsimp only at hSw); go_simp <;> with_reducible rfl
      simp only [Act.put, List.setIfInBounds_toArray, List.set_cons_zero, List.set_cons_succ]
      refine wpAnyH_take (i := 1) (oi := { dst := some 15, op := Op.nilCheck (Operand.tmp 14), type := 0, pos := "sets.go:9", after := #[{ on := 0, ground := Ground.data }], guard := none }) (v := ?_) rfl (by kernel_rfl) (by kernel_rfl) (by kernel_rfl) (fun _ _ _ h => h) (Or.inl ⟨by rfl, ?_⟩) (by assumption) ?_
      rotate_left
      · intro w hSw; (try dsimp only at hSw); go_simp <;> with_reducible rfl
      simp only [Act.put, List.setIfInBounds_toArray, List.set_cons_zero, List.set_cons_succ]
      refine wpAnyH_take (i := 2) (oi := { dst := some 16, op := Op.fieldAddr 63 (Operand.tmp 15) 0, type := 0, pos := "sets.go:9", after := #[{ on := 1, ground := Ground.data }], guard := none }) (v := ?_) rfl (by kernel_rfl) (by kernel_rfl) (by kernel_rfl) (fun _ _ _ h => h) (Or.inl ⟨by rfl, ?_⟩) (by assumption) ?_
      rotate_left
      · intro w hSw; (try dsimp only at hSw); go_simp <;> with_reducible rfl
      simp only [Act.put, List.setIfInBounds_toArray, List.set_cons_zero, List.set_cons_succ]
      refine wpAnyH_take (i := 3) (oi := { dst := some 17, op := Op.load 61 (Operand.tmp 16), type := 61, pos := "sets.go:9", after := #[{ on := 2, ground := Ground.data }], guard := none }) (v := ?_) rfl (by kernel_rfl) (by kernel_rfl) (by kernel_rfl) (fun _ _ _ h => h) (Or.inl ⟨by rfl, ?_⟩) (by assumption) ?_
      rotate_left
      · intro w hSw; (try dsimp only at hSw); go_simp <;> with_reducible rfl
      simp only [Act.put, List.setIfInBounds_toArray, List.set_cons_zero, List.set_cons_succ]
      refine wpAnyH_take (i := 4) (oi := { dst := some 18, op := Op.move (Operand.tmp 6), type := 3, pos := "sets.go:9", after := #[], guard := none }) (v := ?_) rfl (by kernel_rfl) (by kernel_rfl) (by kernel_rfl) (fun _ _ _ h => h) (Or.inl ⟨by rfl, ?_⟩) (by assumption) ?_
      rotate_left
      · intro w hSw; (try dsimp only at hSw); go_simp <;> with_reducible rfl
      simp only [Act.put, List.setIfInBounds_toArray, List.set_cons_zero, List.set_cons_succ]
      refine wpAnyH_take (i := 5) (oi := { dst := some 19, op := Op.indexAddr 61 (Operand.tmp 17) (Operand.tmp 18), type := 0, pos := "sets.go:9", after := #[{ on := 3, ground := Ground.data }, { on := 4, ground := Ground.data }], guard := none }) (v := ?_) rfl (by kernel_rfl) (by kernel_rfl) (by kernel_rfl) (fun _ _ _ h => h) (Or.inl ⟨by rfl, ?_⟩) (by assumption) ?_
      rotate_left
      · intro w hSw; (try dsimp only at hSw); go_simp <;> with_reducible rfl
      simp only [Act.put, List.setIfInBounds_toArray, List.set_cons_zero, List.set_cons_succ]
      refine wpAnyH_take (i := 6) (oi := { dst := some 20, op := Op.load 65 (Operand.tmp 19), type := 65, pos := "sets.go:9", after := #[{ on := 5, ground := Ground.data }], guard := none }) (v := ?_) rfl (by kernel_rfl) (by kernel_rfl) (by kernel_rfl) (fun _ _ _ h => h) (Or.inl ⟨by rfl, ?_⟩) (by assumption) ?_
      rotate_left
      · intro w hSw; (try dsimp only at hSw); go_simp <;> with_reducible rfl
      simp only [Act.put, List.setIfInBounds_toArray, List.set_cons_zero, List.set_cons_succ]
      refine wpAnyH_take (i := 7) (oi := { dst := some 21, op := Op.load 23 (Operand.tmp 3), type := 23, pos := "sets.go:9", after := #[], guard := none }) (v := ?_) rfl (by kernel_rfl) (by kernel_rfl) (by kernel_rfl) (fun _ _ _ h => h) (Or.inl ⟨by rfl, ?_⟩) (by assumption) ?_
      rotate_left
      · intro w hSw; (try dsimp only at hSw); go_simp <;> with_reducible rfl
      simp only [Act.put, List.setIfInBounds_toArray, List.set_cons_zero, List.set_cons_succ]
      refine wpAnyH_ready (rs := [8]) (by kernel_rfl) (by simp) ?_
      refine AllReadyH.cons (o := { dst := some 22, op := Op.call { callee := Callee.value (Operand.func 30), args := #[Operand.tmp 21], argTypes := #[23] }, type := 65, pos := "sets.go:9", after := #[{ on := 7, ground := Ground.data }], guard := none }) rfl (fun K hK => ?_) AllReadyH.nil
      go_simp
      refine (ofO _ _).mono ?_; rintro e w2 ⟨rfl, hb⟩; (try dsimp only)
      refine hK.out _ _ ?_ (fun hHeld => ?_)
      · exact ⟨cell_over hHeld.1 hb, cell_over hHeld.2.1 hb, cell_over hHeld.2.2.1 hb, cell_over hHeld.2.2.2.1 hb, hHeld.2.2.2.2.trans (hb.mono hHeld.2.2.2.2.size)⟩
      clear hK K
      try simp only [Act.put, List.setIfInBounds_toArray, List.set_cons_zero, List.set_cons_succ]
      refine wpAnyH_ready (rs := [9]) (by kernel_rfl) (by simp) ?_
      refine AllReadyH.cons (o := { dst := some 23, op := Op.call { callee := Callee.value (Operand.func 55), args := #[Operand.tmp 20, Operand.tmp 22], argTypes := #[65, 65] }, type := 4, pos := "sets.go:9", after := #[{ on := 6, ground := Ground.data }, { on := 8, ground := Ground.data }, { on := 8, ground := Ground.chain }], guard := none }) rfl (fun K hK => ?_) AllReadyH.nil
      go_simp
      refine (KS'.out _).mono ?_; rintro e w3 ⟨rfl, hb⟩; (try dsimp only)
      refine hK.out _ _ ?_ (fun hHeld => ?_)
      · exact ⟨cell_over hHeld.1 hb, cell_over hHeld.2.1 hb, cell_over hHeld.2.2.1 hb, cell_over hHeld.2.2.2.1 hb, hHeld.2.2.2.2.trans (hb.mono hHeld.2.2.2.2.size)⟩
      clear hK K
      try simp only [Act.put, List.setIfInBounds_toArray, List.set_cons_zero, List.set_cons_succ]
      refine wpAnyH_done (by kernel_rfl) ?_ _
      unfold onlyNormal
      gi_wp2
      have hBW3 : Below W.heap.size W w3 := hHeld.2.2.2.2
      have bA3 := bxb b2 hBW3 (by omega)
      have z3 := hBW3.size
      have e2 := bA3.cell
      have f2 := bA3.frozen
      clear hHeld KS' c0 c1 c2 c3
      refine region_round (fun V => (∃ u, V.cell? ⟨w.heap.size + 1 + 1, 0, none⟩ = some u) ∧ V.frozen? ⟨w.heap.size + 1 + 1, 0, none⟩ = false) hmx (noDefer_of (by kernel_rfl)) ?_ (fun hHeld => ?_)
      · exact ⟨⟨_, e2⟩, f2⟩
      refine wpAnyH_take (i := 1) (oi := { dst := some 25, op := Op.move (Operand.tmp 6), type := 3, pos := "sets.go:10", after := #[], guard := none }) (v := ?_) rfl (by kernel_rfl) (by kernel_rfl) (by kernel_rfl) (fun _ _ _ h => h) (Or.inl ⟨by rfl, ?_⟩) (by assumption) ?_
      rotate_left
      · intro w hSw; (try dsimp only at hSw); go_simp <;> with_reducible rfl
      simp only [Act.put, List.setIfInBounds_toArray, List.set_cons_zero, List.set_cons_succ]
      refine wpAnyH_ready (rs := [0, 2]) (by kernel_rfl) (by simp) ?_
      refine AllReadyH.cons (o := { dst := some 24, op := Op.load 65 (Operand.tmp 5), type := 65, pos := "sets.go:10", after := #[], guard := none }) rfl (fun K hK => ?_) ?_
      · skip
        go_simp
        refine hK.out _ _ ?_ (fun hHeld => ?_)
        · first | exact hHeld | exact ⟨⟨_, e2⟩, f2⟩
        clear hK K
        try simp only [Act.put, List.setIfInBounds_toArray, List.set_cons_zero, List.set_cons_succ]
        refine wpAnyH_ready (rs := [2]) (by kernel_rfl) (by simp) ?_
        refine AllReadyH.cons (o := { dst := some 26, op := Op.call { callee := Callee.value (Operand.func 21), args := #[Operand.tmp 25], argTypes := #[3] }, type := 65, pos := "sets.go:10", after := #[{ on := 1, ground := Ground.data }], guard := none }) rfl (fun K hK => ?_) AllReadyH.nil
        go_simp
        refine (KY.out _).mono ?_; rintro e w4 ⟨rfl, hb⟩; (try dsimp only); have hB4 : Below w3.heap.size w3 w4 := ((Below.refl _ w3).drew).trans hb; have bA4 := bxb bA3 hB4 (by omega); have cA4 := bA4.cell; have fA4 := bA4.frozen
        refine hK.out _ _ ?_ (fun hHeld => ?_)
        · exact ⟨⟨_, cA4⟩, fA4⟩
        clear hK K
        try simp only [Act.put, List.setIfInBounds_toArray, List.set_cons_zero, List.set_cons_succ]
        refine wpAnyH_ready (rs := [3]) (by kernel_rfl) (by simp) ?_
        refine AllReadyH.cons (o := { dst := some 27, op := Op.call { callee := Callee.value (Operand.func 20), args := #[Operand.tmp 24, Operand.tmp 26], argTypes := #[65, 65] }, type := 65, pos := "sets.go:10", after := #[{ on := 0, ground := Ground.data }, { on := 2, ground := Ground.data }, { on := 2, ground := Ground.chain }], guard := none }) rfl (fun K hK => ?_) AllReadyH.nil
        go_simp
        refine (KO.out _).mono ?_; rintro e w5 ⟨rfl, hb5⟩; (try dsimp only); have hB5 : Below w3.heap.size w3 w5 := hB4.trans (hb5.mono hB4.size); have bA5 := bxb bA3 hB5 (by omega); have cA5 := bA5.cell; have fA5 := bA5.frozen; have hBV : Below W.heap.size W w5 := hBW3.trans (hB5.mono hBW3.size)
        refine hK.out _ _ ?_ (fun hHeld => ?_)
        · exact ⟨⟨_, cA5⟩, fA5⟩
        clear hK K
        try simp only [Act.put, List.setIfInBounds_toArray, List.set_cons_zero, List.set_cons_succ]
        refine wpAnyH_ready (rs := [4]) (by kernel_rfl) (by simp) ?_
        refine AllReadyH.cons (o := { dst := none, op := Op.store 65 (Operand.tmp 5) (Operand.tmp 27), type := 0, pos := "sets.go:10", after := #[{ on := 3, ground := Ground.data }, { on := 3, ground := Ground.chain }, { on := 0, ground := Ground.phase }, { on := 1, ground := Ground.phase }, { on := 2, ground := Ground.phase }, { on := 3, ground := Ground.phase }], guard := none }) rfl (fun K hK => ?_) AllReadyH.nil
        go_simp
        refine hK.out _ _ ?_ (fun hHeld => ?_)
        · exact ⟨⟨_, (bA5.set _).cell⟩, (bA5.set _).frozen⟩
        clear hK K
        try simp only [Act.put, List.setIfInBounds_toArray, List.set_cons_zero, List.set_cons_succ]
        refine wpAnyH_done (by kernel_rfl) ?_ _
        unfold onlyNormal
        gi_wp2
        have b4p := (bxb b4 hBV z4).other (B' := w.heap.size + 1 + 1) (by omega) (.int .u64 ((acc ||| pw : Nat) : Int))
        have hBE : Below w.heap.size W (_ : World) := (hBV.mono hWs).setCell (p := ⟨w.heap.size + 1 + 1, 0, none⟩) (by show w.heap.size ≤ w.heap.size + 1 + 1; omega) (.int .u64 ((acc ||| pw : Nat) : Int))
        exact ⟨((keepsO hBV).trans (KeepsOthers.setCell _ _ _)).from _, ⟨b4p.cell.trans b4.cell.symm, fun h => h.below h3 hBE⟩, (bxb b0 hBV (by omega)).other (by omega) _, (bxb b1 hBV (by omega)).other (by omega) _, by rw [hsn.out, hrd.out]; simp only [if_true]; exact (bxb b2 hBV (by omega)).set _, b4p, hB.trans hBE⟩
      refine AllReadyH.cons (o := { dst := some 26, op := Op.call { callee := Callee.value (Operand.func 21), args := #[Operand.tmp 25], argTypes := #[3] }, type := 65, pos := "sets.go:10", after := #[{ on := 1, ground := Ground.data }], guard := none }) rfl (fun K hK => ?_) AllReadyH.nil
      go_simp
      refine (KY.out _).mono ?_; rintro e w4 ⟨rfl, hb⟩; (try dsimp only); have hB4 : Below w3.heap.size w3 w4 := ((Below.refl _ w3).drew).trans hb; have bA4 := bxb bA3 hB4 (by omega); have cA4 := bA4.cell; have fA4 := bA4.frozen
      refine hK.out _ _ ?_ (fun hHeld => ?_)
      · exact ⟨⟨_, cA4⟩, fA4⟩
      clear hK K
      try simp only [Act.put, List.setIfInBounds_toArray, List.set_cons_zero, List.set_cons_succ]
      refine wpAnyH_ready (rs := [0]) (by kernel_rfl) (by simp) ?_
      refine AllReadyH.cons (o := { dst := some 24, op := Op.load 65 (Operand.tmp 5), type := 65, pos := "sets.go:10", after := #[], guard := none }) rfl (fun K hK => ?_) AllReadyH.nil
      go_simp
      refine hK.out _ _ ?_ (fun hHeld => ?_)
      · first | exact hHeld | exact ⟨⟨_, e2⟩, f2⟩
      clear hK K
      try simp only [Act.put, List.setIfInBounds_toArray, List.set_cons_zero, List.set_cons_succ]
      refine wpAnyH_ready (rs := [3]) (by kernel_rfl) (by simp) ?_
      refine AllReadyH.cons (o := { dst := some 27, op := Op.call { callee := Callee.value (Operand.func 20), args := #[Operand.tmp 24, Operand.tmp 26], argTypes := #[65, 65] }, type := 65, pos := "sets.go:10", after := #[{ on := 0, ground := Ground.data }, { on := 2, ground := Ground.data }, { on := 2, ground := Ground.chain }], guard := none }) rfl (fun K hK => ?_) AllReadyH.nil
      go_simp
      refine (KO.out _).mono ?_; rintro e w5 ⟨rfl, hb5⟩; (try dsimp only); have hB5 : Below w3.heap.size w3 w5 := hB4.trans (hb5.mono hB4.size); have bA5 := bxb bA3 hB5 (by omega); have cA5 := bA5.cell; have fA5 := bA5.frozen; have hBV : Below W.heap.size W w5 := hBW3.trans (hB5.mono hBW3.size)
      refine hK.out _ _ ?_ (fun hHeld => ?_)
      · exact ⟨⟨_, cA5⟩, fA5⟩
      clear hK K
      try simp only [Act.put, List.setIfInBounds_toArray, List.set_cons_zero, List.set_cons_succ]
      refine wpAnyH_ready (rs := [4]) (by kernel_rfl) (by simp) ?_
      refine AllReadyH.cons (o := { dst := none, op := Op.store 65 (Operand.tmp 5) (Operand.tmp 27), type := 0, pos := "sets.go:10", after := #[{ on := 3, ground := Ground.data }, { on := 3, ground := Ground.chain }, { on := 0, ground := Ground.phase }, { on := 1, ground := Ground.phase }, { on := 2, ground := Ground.phase }, { on := 3, ground := Ground.phase }], guard := none }) rfl (fun K hK => ?_) AllReadyH.nil
      go_simp
      refine hK.out _ _ ?_ (fun hHeld => ?_)
      · exact ⟨⟨_, (bA5.set _).cell⟩, (bA5.set _).frozen⟩
      clear hK K
      try simp only [Act.put, List.setIfInBounds_toArray, List.set_cons_zero, List.set_cons_succ]
      refine wpAnyH_done (by kernel_rfl) ?_ _
      unfold onlyNormal
      gi_wp2
      have b4p := (bxb b4 hBV z4).other (B' := w.heap.size + 1 + 1) (by omega) (.int .u64 ((acc ||| pw : Nat) : Int))
      have hBE : Below w.heap.size W (_ : World) := (hBV.mono hWs).setCell (p := ⟨w.heap.size + 1 + 1, 0, none⟩) (by show w.heap.size ≤ w.heap.size + 1 + 1; omega) (.int .u64 ((acc ||| pw : Nat) : Int))
      exact ⟨((keepsO hBV).trans (KeepsOthers.setCell _ _ _)).from _, ⟨b4p.cell.trans b4.cell.symm, fun h => h.below h3 hBE⟩, (bxb b0 hBV (by omega)).other (by omega) _, (bxb b1 hBV (by omega)).other (by omega) _, by rw [hsn.out, hrd.out]; simp only [if_true]; exact (bxb b2 hBV (by omega)).set _, b4p, hB.trans hBE⟩
  case done =>
    rintro D ys W hD hys ⟨b0, b1, b2, b4, hB⟩ hK
    rw [hys, ← Hrd.out] at b2
    have c2 := b2.cell
    have z4 := b4.lt
    have hWs := hB.size
    have hDW := (Array.getElem?_eq_some_iff.1 hK).1
    obtain ⟨acc, hacc⟩ : ∃ acc, rdW n Pf d = acc := ⟨_, rfl⟩
    rw [hacc] at b2 c2
    have Hacc := hide' hacc
    clear ho hP hin bO1 bD1 bR1 hys Hrd hacc
    go_wp2_with (go_at_call 31; refine (word64 _ _).mono ?_; rintro e w5 ⟨rfl, hb5⟩)
    have hK1 := (hb5.block D hDW).trans hK
    refine ⟨by simp, .inl ⟨_, _, rfl, run_takeDeferred hK1, ?_⟩⟩
    refine ⟨_, results_tmp rfl _ _ _, (by rw [Hacc.out]; rfl), ?_⟩
    exact (hB.trans (hb5.mono hWs)).trans (belowK_b (w := w) (Nat.le_refl _) _ D _ _ (by omega) hK1 rfl rfl)
  case stop =>
    rintro D c pre W _ _ h _
    exact h.elim
theorem readyO (ho : OrdAt w go gp gs n Pf Sf) (hn : n ≤ 64) (hP : ∀ a, a < n → Pf a < 18446744073709551616) (d : Nat) (hd : d < 18446744073709551616) (ht : Tab w) :
    Calls Tryd.prog 28 #[.pointer (some ⟨go, 0, none⟩), .int .u64 d] w fun e W' => e = .returned (.int .u64 (rdW n Pf d : Int)) ∧ Below w.heap.size w W' := callsIn_wide.1 (readyC ho hn hP d hd ht)
end
end Go.Proofs.YtjimiabfgmchiaaDoor
