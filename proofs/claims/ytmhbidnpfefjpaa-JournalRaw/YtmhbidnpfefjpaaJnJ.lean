/- The journal in memory: read, write, Room, pass. -/
import Derived.Test.YtmhbidnpfefjpaaJnH
namespace Go.Proofs.Ytmhbidnpfefjpaa
open Go.RowKit
def JnA (W : World) (gj g : Nat) (J : Jn) : Prop :=
  W.heap[gj]? = some (.cells #[.pointer (some ⟨g, 0, none⟩), .int .i64 (J.e : Int), .int .i64 (J.c : Int), .int .u32 (J.b : Int), .bool J.dn] 74 (0, 0))
theorem JnA.cells {W : World} {gj g : Nat} {J : Jn} (h : JnA W gj g J) : W.cell? ⟨gj, 0, none⟩ = some (.pointer (some ⟨g, 0, none⟩)) ∧ W.cell? ⟨gj, 1, none⟩ = some (.int .i64 (J.e : Int)) ∧ W.cell? ⟨gj, 2, none⟩ = some (.int .i64 (J.c : Int)) ∧ W.cell? ⟨gj, 3, none⟩ = some (.int .u32 (J.b : Int)) ∧ W.cell? ⟨gj, 4, none⟩ = some (.bool J.dn) := by
  unfold JnA at h
  refine ⟨?_, ?_, ?_, ?_, ?_⟩ <;> simp [World.cell?, h]
theorem JnA.free {W : World} {gj g : Nat} {J : Jn} (h : JnA W gj g J) (i : Nat) : W.frozen? ⟨gj, i, none⟩ = false := by
  unfold JnA at h
  simp [World.frozen?, h]
theorem JnA.below {W W' : World} {gj g B : Nat} {J : Jn} (h : JnA W gj g J) (k : Below B W W') (hB : gj < B) : JnA W' gj g J := (k.block gj hB).trans h
theorem JnA.kp {W W' : World} {gj g x y : Nat} {J : Jn} (h : JnA W gj g J) (k : Kp x y W W') (h1 : gj ≠ x) (h2 : gj ≠ y) : JnA W' gj g J := (k.block gj (blk_lt h) h1 h2).trans h
theorem JnA.nd {W : World} {gj g g' gb' : Nat} {J : Jn} {D : Dk} (h : JnA W gj g J) (hd : DkA W g' gb' D) : gj ≠ g' ∧ gj ≠ gb' := by
  refine ⟨?_, ?_⟩
  · rintro rfl
    have h1 := hd.1
    unfold JnA at h
    rw [h] at h1
    injection h1 with h1
    injection h1 with _ h1
    exact absurd h1 (by decide)
  · rintro rfl
    have h1 := hd.2
    unfold BkB at h1
    unfold JnA at h
    rw [h] at h1
    injection h1 with h1
    injection h1 with _ h1
    exact absurd h1 (by decide)
set_option maxRecDepth 100000 in
theorem lenF {W : World} {gj g : Nat} {J : Jn} (h : JnA W gj g J) : Calls Try.prog 23 #[.pointer (some ⟨gj, 0, none⟩)] W fun e w' => e = .returned (.int .i64 (J.c : Int)) ∧ w' = W := by
  obtain ⟨c0, c1, c2, c3, c4⟩ := h.cells
  clear h
  go_enter Try.func23, Try.ntmps23
  go_wp2
  go_ret
  exact ⟨rfl, rfl⟩
set_option maxRecDepth 100000 in
theorem bootsF {W : World} {gj g : Nat} {J : Jn} (h : JnA W gj g J) (hb : J.b < 4294967296) : Calls Try.prog 28 #[.pointer (some ⟨gj, 0, none⟩)] W fun e w' => e = .returned (.int .i64 (J.b : Int)) ∧ w' = W := by
  obtain ⟨c0, c1, c2, c3, c4⟩ := h.cells
  clear h
  go_enter Try.func28, Try.ntmps28
  go_wp2
  go_ret
  exact ⟨rfl, rfl⟩
theorem roomI_neg {n e : Nat} (h : n < e + 2) : roomI n e = -1 := if_pos h
theorem roomI_pos {n e : Nat} (h : ¬ n < e + 2) : roomI n e = min (16 * ((n : Int) - e - 2)) 131072 := if_neg h
set_option maxRecDepth 100000 in
set_option maxHeartbeats 1000000 in
theorem roomF {W : World} {gj g gb n : Nat} {J : Jn} {D : Dk} (h : JnA W gj g J) (hd : DkA W g gb D) (hk : D.bytes.length = 16 * n) (hn : n ≤ 65536) (he : J.e ≤ 100000) : Calls Try.prog 29 #[.pointer (some ⟨gj, 0, none⟩)] W fun e w' => e = .returned (.int .i64 (roomI n J.e)) ∧ Below W.heap.size W w' := by
  obtain ⟨c0, c1, c2, c3, c4⟩ := h.cells
  have d0 : W.drew.cell? ⟨gj, 1, none⟩ = some (.int .i64 (J.e : Int)) := c1
  have K := hide' (blocksF (W := W.drew) (show DkA W.drew g gb D from hd) hk hn)
  have hw1 : IntKind.i64.wrap ((n : Int) - (J.e : Int)) = (n : Int) - (J.e : Int) := wrap_id (by omega) (by omega)
  have hw2 : IntKind.i64.wrap ((n : Int) - (J.e : Int) - 2) = (n : Int) - (J.e : Int) - 2 := wrap_id (by omega) (by omega)
  clear h hd
  generalize J.e = e at *
  by_cases hlt : n < e + 2
  · have hl : (n : Int) - (e : Int) - 2 < 0 := by omega
    rw [roomI_neg hlt]
    go_enter Try.func29, Try.ntmps29
    go_wp2
    go_region_held3 (fun V => V.cell? ⟨gj, 0, none⟩ = some (.pointer (some ⟨g, 0, none⟩)) ∧ V.cell? ⟨gj, 1, none⟩ = some (.int .i64 (e : Int))) (first | (exact ⟨c0, c1⟩)) (first | (go_at_call 18; refine K.out.mono ?_; rintro e' w1 ⟨rfl, hw1'⟩; obtain rfl : W.drew = w1 := hw1'.symm))
    go_wp2
    go_ret
    exact ⟨rfl, (Below.refl _ W).drew⟩
  · have hl : ¬ (n : Int) - (e : Int) - 2 < 0 := by omega
    rw [roomI_pos hlt]
    go_enter Try.func29, Try.ntmps29
    go_wp2
    go_region_held3 (fun V => V.cell? ⟨gj, 0, none⟩ = some (.pointer (some ⟨g, 0, none⟩)) ∧ V.cell? ⟨gj, 1, none⟩ = some (.int .i64 (e : Int))) (first | (exact ⟨c0, c1⟩)) (first | (go_at_call 18; refine K.out.mono ?_; rintro e' w1 ⟨rfl, hw1'⟩; obtain rfl : W.drew = w1 := hw1'.symm))
    go_wp2
    all_goals
      go_ret
      exact ⟨ret_int (by omega), (Below.refl _ W).drew⟩
set_option maxRecDepth 100000 in
set_option maxHeartbeats 1000000 in
theorem readJ {W : World} {gj g gb n : Nat} {J : Jn} {D : Dk} (h : JnA W gj g J) (hd : DkA W g gb D) (hk : D.bytes.length = 16 * n) (hn : n ≤ 65536) (b : Nat) (hb : b < n) (hp : D.power = true) : Calls Try.prog 56 #[.pointer (some ⟨gj, 0, none⟩), .int .i64 (b : Int)] W fun e w' => e = .returned (.agg (cellsB (blkB D.bytes b)).toArray) ∧ Below W.heap.size W w' := by
  have zJ := zeroJ
  have hA : Hid (BkT ((W.alloc (.cells (cellsB z16).toArray 79)).alloc (.cells (cellsB z16).toArray 79)) 79 W.heap.size z16) := (bkt_new W _ z16).below ((Below.refl _ _).alloc (Nat.le_refl _) _) (by rw [size_alloc]; omega)
  have hB : Hid (BkT ((W.alloc (.cells (cellsB z16).toArray 79)).alloc (.cells (cellsB z16).toArray 79)) 79 (W.heap.size + 1) z16) := by
    have := bkt_new (W.alloc (.cells (cellsB z16).toArray 79)) 79 z16
    rw [size_alloc] at this
    exact this
  have hW : Hid (Below W.heap.size W ((W.alloc (.cells (cellsB z16).toArray 79)).alloc (.cells (cellsB z16).toArray 79))) := ((Below.refl _ _).alloc (Nat.le_refl _) _).alloc (by rw [size_alloc]; omega) _
  have c0 := h.cells.1
  have c0' := (h.below hW.out (blk_lt h)).cells.1
  have K := hide' (readF (hd.below hW.out (Nat.le_refl _)) hk hn b hb hp)
  unfold RdP at K
  have hlen := hide' (blkB_len hk hb)
  clear h hd
  generalize blkB D.bytes b = P at *
  go_enter Try.func56, Try.ntmps56
  go_wp2_with fail
  refine K.out.mono ?_
  rintro e w1 ⟨rfl, hb1, hw1⟩
  have hA1 : Hid (BkT w1 79 W.heap.size z16) := hA.out.below hw1.out (blk_lt hA.out)
  have hB1 : Hid (BkT w1 79 (W.heap.size + 1) z16) := hB.out.below hw1.out (blk_lt hB.out)
  have hsz : ((W.alloc (.cells (cellsB z16).toArray 79)).alloc (.cells (cellsB z16).toArray 79)).heap.size = W.heap.size + 2 := by rw [size_alloc, size_alloc]
  rw [hsz] at hb1
  have hM : Hid (∀ (j : Nat) (z : Nat), P[j]? = some z → ∃ g' o', (some ⟨W.heap.size + 2, 0, none⟩ : Option Addr) = some ⟨g', o', none⟩ ∧ w1.cell? ⟨g', o' + j, none⟩ = some (.int .u8 (z : Int))) := fun j z hj => ⟨_, _, rfl, by rw [Nat.zero_add]; exact hb1.out.cell hj⟩
  have hBel : Hid (Below W.heap.size W w1) := hW.out.trans (hw1.out.mono (by rw [hsz]; omega))
  clear hb1 hsz hw1 K hA hB hW
  go_wp2_with (first | (refine copyT rfl (.tmp 17) (.tmp 18) rfl (W.heap.size + 1) 0 16 16 16 16 _ rfl rfl _ z16 P hB1.out (by rw [hlen.out]; rfl) hM (by rw [hlen.out]; decide) ?_; intro w2 h2 k2; have hA2 := hide' (hA1.out.kp k2.out (by omega) (by omega)); rw [splice_all16 rfl hlen.out] at h2) | (refine loadJ rfl (.tmp 5) rfl (W.heap.size + 1) rfl _ P h2.out hlen.out ?_) | (refine storeJ rfl (.tmp 4) (.tmp 20) rfl W.heap.size _ z16 P rfl rfl hA2.out hlen.out rfl ?_; intro w3 h3 k3))
  refine bodyPost_ret (results_arr rfl rfl h3.out hlen.out) rfl ⟨rfl, ?_⟩
  have hs := hBel.out.size
  exact hBel.out.trans ((k2.out.below (by omega) (by omega) hs).trans (k3.out.below (Nat.le_refl _) (Nat.le_refl _) (Nat.le_trans hs k2.out.size)))
/-- A write of a block by the journal: with power it is done, without it is refused. -/
def WjP (W : World) (g gb : Nat) (D : Dk) (b : Nat) (P : List Nat) (e : Ending) (w' : World) : Prop :=
  ∃ (r : Int) (D' : Dk), e = .returned (.int .i64 r) ∧ Hid (D.power = true ∧ r = 0 ∧ D' = wrD D b P ∨ D.power = false ∧ r = 50 ∧ D' = D) ∧ Hid (DkA w' g gb D') ∧ Hid (Kp g gb W w')
set_option maxRecDepth 100000 in
set_option maxHeartbeats 1000000 in
theorem writeJ {W : World} {gj g gb n : Nat} {J : Jn} {D : Dk} (h : JnA W gj g J) (hd : DkA W g gb D) (hk : DkO D n) (b : Nat) (hb : b < n) (P : List Nat) (hP : P.length = 16) (hw : D.writes < 1000000000000) : Calls Try.prog 38 #[.pointer (some ⟨gj, 0, none⟩), .int .i64 (b : Int), .agg (cellsB P).toArray] W (WjP W g gb D b P) := by
  unfold WjP
  have hW : Hid (Below W.heap.size W (W.alloc (.cells (cellsB P).toArray 79)).drew) := ((Below.refl _ _).alloc (Nat.le_refl _) _).drew
  have hrow : RowC (W.alloc (.cells (cellsB P).toArray 79)).drew (.slice (some ⟨W.heap.size, 0, none⟩) 16 16) P := BkT.row (L := P) (show BkT (W.alloc (.cells (cellsB P).toArray 79)).drew 79 W.heap.size P from bkt_new W _ P) (fun i z hz => by rw [Nat.zero_add]; exact hz) hP.symm (Nat.le_refl _)
  have hj := hide' (h.below hW.out (blk_lt h))
  have hne := hide' (h.nd hd)
  have c0 := hj.out.cells.1
  have hd' := hide' (hd.below hW.out (Nat.le_refl _))
  clear h
  by_cases hp : D.power = true
  · have K := hide' (writeF hd'.out hk b hb hp P _ hrow hP hw)
    unfold ChP at K
    clear hd hrow hk hd'
    have hp' := hide' hp
    clear hp
    go_enter Try.func38, Try.ntmps38
    go_wp2
    go_region_held3 (fun V => V.cell? ⟨gj, 0, none⟩ = some (.pointer (some ⟨g, 0, none⟩))) (first | (exact c0) | (exact (hj.out.kp hk1.out hne.out.1 hne.out.2).cells.1)) (first | (go_at_call 59; refine K.out.mono ?_; rintro e' w1 ⟨rfl, hd1, hk1⟩))
    go_wp2
    go_ret
    exact ⟨0, _, rfl, .inl ⟨hp'.out, rfl, rfl⟩, hd1, (Kp.of_below hW.out).trans hk1.out⟩
  · have hp0 : D.power = false := by simpa using hp
    have K := hide' (writeDown hd'.out hk.len hk.most b P _ hrow ⟨by omega, by omega⟩ hP hp0)
    clear hd hrow hk hp
    have hp' := hide' hp0
    clear hp0
    go_enter Try.func38, Try.ntmps38
    go_wp2
    go_region_held3 (fun V => V.cell? ⟨gj, 0, none⟩ = some (.pointer (some ⟨g, 0, none⟩))) (first | (exact c0)) (first | (go_at_call 59; refine K.out.mono ?_; rintro e' w1 ⟨rfl, hw1⟩; obtain rfl : (W.alloc (.cells (cellsB P).toArray 79)).drew = w1 := hw1.symm))
    go_wp2
    go_ret
    exact ⟨50, _, rfl, .inr ⟨hp'.out, rfl, rfl⟩, hd', Kp.of_below hW.out⟩
theorem JnA.set1 {W : World} {gj g : Nat} {J : Jn} (h : JnA W gj g J) (e : Nat) : JnA (W.setCell ⟨gj, 1, none⟩ (.int .i64 (e : Int))) gj g { J with e := e } := by
  have q := set_heap h 1 (.int .i64 (e : Int))
  simpa [JnA] using q
theorem JnA.set2 {W : World} {gj g : Nat} {J : Jn} (h : JnA W gj g J) (c : Nat) : JnA (W.setCell ⟨gj, 2, none⟩ (.int .i64 (c : Int))) gj g { J with c := c } := by
  have q := set_heap h 2 (.int .i64 (c : Int))
  simpa [JnA] using q
theorem JnA.set3 {W : World} {gj g : Nat} {J : Jn} (h : JnA W gj g J) (b : Nat) : JnA (W.setCell ⟨gj, 3, none⟩ (.int .u32 (b : Int))) gj g { J with b := b } := by
  have q := set_heap h 3 (.int .u32 (b : Int))
  simpa [JnA] using q
theorem JnA.set4 {W : World} {gj g : Nat} {J : Jn} (h : JnA W gj g J) (d : Bool) : JnA (W.setCell ⟨gj, 4, none⟩ (.bool d)) gj g { J with dn := d } := by
  have q := set_heap h 4 (.bool d)
  simpa [JnA] using q
set_option maxRecDepth 100000 in
set_option maxHeartbeats 1000000 in
theorem passJ {W : World} {gj g : Nat} {J : Jn} (h : JnA W gj g J) {oa : Option Addr} {m cap : Nat} (hm : m ≤ 1000000000) (he : J.e ≤ 100000) (hc : J.c ≤ 100000) : Calls Try.prog 42 #[.pointer (some ⟨gj, 0, none⟩), .slice oa m cap] W fun e w' => e = .returned (.tuple #[]) ∧ JnA w' gj g { J with e := J.e + 1 + spn m, c := J.c + 1 } ∧ Kp gj gj W w' := by
  have KS := hide' (sizeF (W := W.drew) (oa := oa) (m := m) (cap := cap) hm)
  have hsp : spn m ≤ 100000000 := by unfold spn; omega
  obtain ⟨c0, c1, c2, c3, c4⟩ := h.cells
  have f0 := h.free
  have hd : JnA W.drew gj g J := h
  have c1d : W.drew.cell? ⟨gj, 1, none⟩ = some (.int .i64 (J.e : Int)) := c1
  have f0d := hd.free
  have hj1 := hide' (hd.set1 (J.e + 1 + spn m))
  rw [show ((J.e + 1 + spn m : Nat) : Int) = (J.e : Int) + (1 + (spn m : Int)) by omega] at hj1
  obtain ⟨_, _, e2, _, _⟩ := hj1.out.cells
  have g2 := hj1.out.free
  have hj2 := hide' (hj1.out.set2 (J.c + 1))
  rw [show ((J.c + 1 : Nat) : Int) = (J.c : Int) + 1 by omega] at hj2
  have hk2 : Hid (Kp gj gj W ((W.drew.setCell ⟨gj, 1, none⟩ (.int .i64 ((J.e : Int) + (1 + (spn m : Int))))).setCell ⟨gj, 2, none⟩ (.int .i64 ((J.c : Int) + 1)))) := ((Kp.of_below (Below.refl _ W).drew).set _ _).set _ _
  have hw1 : IntKind.i64.wrap (1 + (spn m : Int)) = 1 + (spn m : Int) := wrap_id (by omega) (by omega)
  have hw2 : IntKind.i64.wrap ((J.e : Int) + (1 + (spn m : Int))) = (J.e : Int) + (1 + (spn m : Int)) := wrap_id (by omega) (by omega)
  dsimp only at e2
  clear h hd
  generalize spn m = sp at *
  go_enter Try.func42, Try.ntmps42
  go_wp2
  refine wp_region_held_drew (S := (fun _ => True)) (by kernel_rfl) ?_ (fun hHeld => ?_)
  · trivial
  refine wpAnyH_take (i := 0) (oi := { dst := some 4, op := Op.move (Operand.tmp 0), type := 29, pos := "journal.go:144", after := #[], guard := none }) (v := ?_) rfl (by kernel_rfl) (by kernel_rfl) (by kernel_rfl) (fun _ _ _ h => h) (Or.inl ⟨by rfl, ?_⟩) (by assumption) ?_
  rotate_left
  · intro w hSw; (try dsimp only at hSw); go_simp <;> with_reducible rfl
  simp only [Act.put, List.setIfInBounds_toArray, List.set_cons_zero, List.set_cons_succ]
  refine wpAnyH_take (i := 1) (oi := { dst := some 5, op := Op.nilCheck (Operand.tmp 4), type := 0, pos := "journal.go:144", after := #[{ on := 0, ground := Ground.data }], guard := none }) (v := ?_) rfl (by kernel_rfl) (by kernel_rfl) (by kernel_rfl) (fun _ _ _ h => h) (Or.inl ⟨by rfl, ?_⟩) (by assumption) ?_
  rotate_left
  · intro w hSw; (try dsimp only at hSw); go_simp <;> with_reducible rfl
  simp only [Act.put, List.setIfInBounds_toArray, List.set_cons_zero, List.set_cons_succ]
  refine wpAnyH_take (i := 2) (oi := { dst := some 6, op := Op.fieldAddr 74 (Operand.tmp 5) 1, type := 0, pos := "journal.go:144", after := #[{ on := 1, ground := Ground.data }], guard := none }) (v := ?_) rfl (by kernel_rfl) (by kernel_rfl) (by kernel_rfl) (fun _ _ _ h => h) (Or.inl ⟨by rfl, ?_⟩) (by assumption) ?_
  rotate_left
  · intro w hSw; (try dsimp only at hSw); go_simp <;> with_reducible rfl
  simp only [Act.put, List.setIfInBounds_toArray, List.set_cons_zero, List.set_cons_succ]
  refine wpAnyH_take (i := 4) (oi := { dst := some 8, op := Op.move (Operand.tmp 1), type := 34, pos := "journal.go:144", after := #[], guard := none }) (v := ?_) rfl (by kernel_rfl) (by kernel_rfl) (by kernel_rfl) (fun _ _ _ h => h) (Or.inl ⟨by rfl, ?_⟩) (by assumption) ?_
  rotate_left
  · intro w hSw; (try dsimp only at hSw); go_simp <;> with_reducible rfl
  simp only [Act.put, List.setIfInBounds_toArray, List.set_cons_zero, List.set_cons_succ]
  refine wpAnyH_ready (rs := [3, 5]) (by kernel_rfl) (by simp) ?_
  refine AllReadyH.cons (o := { dst := some 7, op := Op.load 3 (Operand.tmp 6), type := 3, pos := "journal.go:144", after := #[{ on := 2, ground := Ground.data }], guard := none }) rfl (fun K hK => ?_) ?_
  · skip
    go_simp
    refine hK.out _ _ ?_ (fun hHeld => ?_)
    · trivial
    clear hK K
    try simp only [Act.put, List.setIfInBounds_toArray, List.set_cons_zero, List.set_cons_succ]
    refine wpAnyH_ready (rs := [5]) (by kernel_rfl) (by simp) ?_
    refine AllReadyH.cons (o := { dst := some 9, op := Op.call { callee := Callee.value (Operand.func 61), args := #[Operand.tmp 8], argTypes := #[34] }, type := 3, pos := "journal.go:144", after := #[{ on := 4, ground := Ground.data }], guard := none }) rfl (fun K hK => ?_) AllReadyH.nil
    go_simp
    go_at_call 61; refine KS.out.mono ?_; rintro e' w1 ⟨rfl, hw1'⟩; obtain rfl : W.drew = w1 := hw1'.symm; (try dsimp only)
    refine hK.out _ _ ?_ (fun hHeld => ?_)
    · trivial
    clear hK K
    try simp only [Act.put, List.setIfInBounds_toArray, List.set_cons_zero, List.set_cons_succ]
    refine wpAnyH_take (i := 6) (oi := { dst := some 10, op := Op.binOp BinOp.add 3 (Operand.const (Value.int IntKind.i64 1)) (Operand.tmp 9) 3, type := 3, pos := "journal.go:144", after := #[{ on := 5, ground := Ground.data }], guard := none }) (v := ?_) rfl (by kernel_rfl) (by kernel_rfl) (by kernel_rfl) (fun _ _ _ h => h) (Or.inl ⟨by rfl, ?_⟩) (by assumption) ?_
    rotate_left
    · intro w hSw; (try dsimp only at hSw); go_simp <;> with_reducible rfl
    simp only [Act.put, List.setIfInBounds_toArray, List.set_cons_zero, List.set_cons_succ]
    refine wpAnyH_take (i := 7) (oi := { dst := some 11, op := Op.binOp BinOp.add 3 (Operand.tmp 7) (Operand.tmp 10) 3, type := 3, pos := "journal.go:144", after := #[{ on := 3, ground := Ground.data }, { on := 6, ground := Ground.data }], guard := none }) (v := ?_) rfl (by kernel_rfl) (by kernel_rfl) (by kernel_rfl) (fun _ _ _ h => h) (Or.inl ⟨by rfl, ?_⟩) (by assumption) ?_
    rotate_left
    · intro w hSw; (try dsimp only at hSw); go_simp <;> with_reducible rfl
    simp only [Act.put, List.setIfInBounds_toArray, List.set_cons_zero, List.set_cons_succ]
    refine wpAnyH_take (i := 8) (oi := { dst := some 12, op := Op.nilCheck (Operand.tmp 4), type := 0, pos := "journal.go:144", after := #[{ on := 0, ground := Ground.data }, { on := 0, ground := Ground.phase }, { on := 1, ground := Ground.phase }, { on := 2, ground := Ground.phase }, { on := 3, ground := Ground.phase }, { on := 4, ground := Ground.phase }, { on := 5, ground := Ground.phase }, { on := 6, ground := Ground.phase }, { on := 7, ground := Ground.phase }], guard := none }) (v := ?_) rfl (by kernel_rfl) (by kernel_rfl) (by kernel_rfl) (fun _ _ _ h => h) (Or.inl ⟨by rfl, ?_⟩) (by assumption) ?_
    rotate_left
    · intro w hSw; (try dsimp only at hSw); go_simp <;> with_reducible rfl
    simp only [Act.put, List.setIfInBounds_toArray, List.set_cons_zero, List.set_cons_succ]
    refine wpAnyH_take (i := 9) (oi := { dst := some 13, op := Op.fieldAddr 74 (Operand.tmp 12) 1, type := 0, pos := "journal.go:144", after := #[{ on := 8, ground := Ground.data }, { on := 0, ground := Ground.phase }, { on := 1, ground := Ground.phase }, { on := 2, ground := Ground.phase }, { on := 3, ground := Ground.phase }, { on := 4, ground := Ground.phase }, { on := 5, ground := Ground.phase }, { on := 6, ground := Ground.phase }, { on := 7, ground := Ground.phase }], guard := none }) (v := ?_) rfl (by kernel_rfl) (by kernel_rfl) (by kernel_rfl) (fun _ _ _ h => h) (Or.inl ⟨by rfl, ?_⟩) (by assumption) ?_
    rotate_left
    · intro w hSw; (try dsimp only at hSw); go_simp <;> with_reducible rfl
    simp only [Act.put, List.setIfInBounds_toArray, List.set_cons_zero, List.set_cons_succ]
    refine wpAnyH_ready (rs := [10]) (by kernel_rfl) (by simp) ?_
    refine AllReadyH.cons (o := { dst := none, op := Op.store 3 (Operand.tmp 13) (Operand.tmp 11), type := 0, pos := "journal.go:144", after := #[{ on := 9, ground := Ground.data }, { on := 7, ground := Ground.data }, { on := 5, ground := Ground.chain }, { on := 0, ground := Ground.phase }, { on := 1, ground := Ground.phase }, { on := 2, ground := Ground.phase }, { on := 3, ground := Ground.phase }, { on := 4, ground := Ground.phase }, { on := 5, ground := Ground.phase }, { on := 6, ground := Ground.phase }, { on := 7, ground := Ground.phase }], guard := none }) rfl (fun K hK => ?_) AllReadyH.nil
    go_simp
    refine hK.out _ _ ?_ (fun hHeld => ?_)
    · trivial
    clear hK K
    try simp only [Act.put, List.setIfInBounds_toArray, List.set_cons_zero, List.set_cons_succ]
    refine wpAnyH_done (by kernel_rfl) ?_ _
    skip
    go_wp2
    exact bodyPost_end (results_none rfl _ _ _) rfl ⟨rfl, hj2.out, hk2.out⟩
  refine AllReadyH.cons (o := { dst := some 9, op := Op.call { callee := Callee.value (Operand.func 61), args := #[Operand.tmp 8], argTypes := #[34] }, type := 3, pos := "journal.go:144", after := #[{ on := 4, ground := Ground.data }], guard := none }) rfl (fun K hK => ?_) AllReadyH.nil
  go_simp
  go_at_call 61; refine KS.out.mono ?_; rintro e' w1 ⟨rfl, hw1'⟩; obtain rfl : W.drew = w1 := hw1'.symm; (try dsimp only)
  refine hK.out _ _ ?_ (fun hHeld => ?_)
  · trivial
  clear hK K
  try simp only [Act.put, List.setIfInBounds_toArray, List.set_cons_zero, List.set_cons_succ]
  refine wpAnyH_take (i := 6) (oi := { dst := some 10, op := Op.binOp BinOp.add 3 (Operand.const (Value.int IntKind.i64 1)) (Operand.tmp 9) 3, type := 3, pos := "journal.go:144", after := #[{ on := 5, ground := Ground.data }], guard := none }) (v := ?_) rfl (by kernel_rfl) (by kernel_rfl) (by kernel_rfl) (fun _ _ _ h => h) (Or.inl ⟨by rfl, ?_⟩) (by assumption) ?_
  rotate_left
  · intro w hSw; (try dsimp only at hSw); go_simp <;> with_reducible rfl
  simp only [Act.put, List.setIfInBounds_toArray, List.set_cons_zero, List.set_cons_succ]
  refine wpAnyH_ready (rs := [3]) (by kernel_rfl) (by simp) ?_
  refine AllReadyH.cons (o := { dst := some 7, op := Op.load 3 (Operand.tmp 6), type := 3, pos := "journal.go:144", after := #[{ on := 2, ground := Ground.data }], guard := none }) rfl (fun K hK => ?_) AllReadyH.nil
  go_simp
  refine hK.out _ _ ?_ (fun hHeld => ?_)
  · trivial
  clear hK K
  try simp only [Act.put, List.setIfInBounds_toArray, List.set_cons_zero, List.set_cons_succ]
  refine wpAnyH_take (i := 7) (oi := { dst := some 11, op := Op.binOp BinOp.add 3 (Operand.tmp 7) (Operand.tmp 10) 3, type := 3, pos := "journal.go:144", after := #[{ on := 3, ground := Ground.data }, { on := 6, ground := Ground.data }], guard := none }) (v := ?_) rfl (by kernel_rfl) (by kernel_rfl) (by kernel_rfl) (fun _ _ _ h => h) (Or.inl ⟨by rfl, ?_⟩) (by assumption) ?_
  rotate_left
  · intro w hSw; (try dsimp only at hSw); go_simp <;> with_reducible rfl
  simp only [Act.put, List.setIfInBounds_toArray, List.set_cons_zero, List.set_cons_succ]
  refine wpAnyH_take (i := 8) (oi := { dst := some 12, op := Op.nilCheck (Operand.tmp 4), type := 0, pos := "journal.go:144", after := #[{ on := 0, ground := Ground.data }, { on := 0, ground := Ground.phase }, { on := 1, ground := Ground.phase }, { on := 2, ground := Ground.phase }, { on := 3, ground := Ground.phase }, { on := 4, ground := Ground.phase }, { on := 5, ground := Ground.phase }, { on := 6, ground := Ground.phase }, { on := 7, ground := Ground.phase }], guard := none }) (v := ?_) rfl (by kernel_rfl) (by kernel_rfl) (by kernel_rfl) (fun _ _ _ h => h) (Or.inl ⟨by rfl, ?_⟩) (by assumption) ?_
  rotate_left
  · intro w hSw; (try dsimp only at hSw); go_simp <;> with_reducible rfl
  simp only [Act.put, List.setIfInBounds_toArray, List.set_cons_zero, List.set_cons_succ]
  refine wpAnyH_take (i := 9) (oi := { dst := some 13, op := Op.fieldAddr 74 (Operand.tmp 12) 1, type := 0, pos := "journal.go:144", after := #[{ on := 8, ground := Ground.data }, { on := 0, ground := Ground.phase }, { on := 1, ground := Ground.phase }, { on := 2, ground := Ground.phase }, { on := 3, ground := Ground.phase }, { on := 4, ground := Ground.phase }, { on := 5, ground := Ground.phase }, { on := 6, ground := Ground.phase }, { on := 7, ground := Ground.phase }], guard := none }) (v := ?_) rfl (by kernel_rfl) (by kernel_rfl) (by kernel_rfl) (fun _ _ _ h => h) (Or.inl ⟨by rfl, ?_⟩) (by assumption) ?_
  rotate_left
  · intro w hSw; (try dsimp only at hSw); go_simp <;> with_reducible rfl
  simp only [Act.put, List.setIfInBounds_toArray, List.set_cons_zero, List.set_cons_succ]
  refine wpAnyH_ready (rs := [10]) (by kernel_rfl) (by simp) ?_
  refine AllReadyH.cons (o := { dst := none, op := Op.store 3 (Operand.tmp 13) (Operand.tmp 11), type := 0, pos := "journal.go:144", after := #[{ on := 9, ground := Ground.data }, { on := 7, ground := Ground.data }, { on := 5, ground := Ground.chain }, { on := 0, ground := Ground.phase }, { on := 1, ground := Ground.phase }, { on := 2, ground := Ground.phase }, { on := 3, ground := Ground.phase }, { on := 4, ground := Ground.phase }, { on := 5, ground := Ground.phase }, { on := 6, ground := Ground.phase }, { on := 7, ground := Ground.phase }], guard := none }) rfl (fun K hK => ?_) AllReadyH.nil
  go_simp
  refine hK.out _ _ ?_ (fun hHeld => ?_)
  · trivial
  clear hK K
  try simp only [Act.put, List.setIfInBounds_toArray, List.set_cons_zero, List.set_cons_succ]
  refine wpAnyH_done (by kernel_rfl) ?_ _
  skip
  go_wp2
  exact bodyPost_end (results_none rfl _ _ _) rfl ⟨rfl, hj2.out, hk2.out⟩
end Go.Proofs.Ytmhbidnpfefjpaa
