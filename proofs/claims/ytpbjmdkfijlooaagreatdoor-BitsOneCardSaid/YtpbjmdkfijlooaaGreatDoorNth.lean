/- Nth: the number with so many below it. -/
import Derived.Test.YtpbjmdkfijlooaaGreatDoorRank
namespace Go.Proofs.YtpbjmdkfijlooaaGreatDoor
open Go.RowKit Go.Shelf
attribute [local go_sem] Oper.semAt_some
theorem nth_hit {l pre rest : List (Fin 64)} {j : Fin 64} {k : Int} (hs : l.Pairwise (· < ·)) (h : l = pre ++ j :: rest) (hk : ((toI (j.val : Int) l).length : Int) = k) : nthI l k = j.val := by
  rw [to_snoc hs h] at hk
  unfold nthI
  rw [if_pos (by omega), show k.toNat = pre.length by omega, h]
  simp
theorem nth_miss {l : List (Fin 64)} {k : Int} (hs : l.Pairwise (· < ·)) (h : ∀ j ∈ l, ((toI (j.val : Int) l).length : Int) ≠ k) : nthI l k = -1 := by
  unfold nthI
  by_cases hk : 0 ≤ k
  · rw [if_pos hk]
    cases e : l[k.toNat]? with
    | none => rfl
    | some j =>
      obtain ⟨hlt, rfl⟩ := List.getElem?_eq_some_iff.1 e
      have hm := List.getElem_mem hlt
      have hsp : l = l.take k.toNat ++ l[k.toNat] :: l.drop (k.toNat + 1) := by rw [List.getElem_cons_drop, List.take_append_drop]
      have := h _ hm
      rw [to_snoc hs hsp, List.length_take] at this
      omega
  · rw [if_neg hk]
theorem keepsO {W w1 : World} (h : Below W.heap.size W w1) : KeepsOthers W w1 :=
  ⟨h.size, fun k _ hk _ => (h.block k (Array.getElem?_eq_some_iff.1 hk).1).trans hk⟩
set_option maxRecDepth 100000 in
set_option maxHeartbeats 4000000 in
theorem nthC8 (x : Nat) (hx : x < 256) (k : Int) (w : World) (ht : Tab w) :
    CallsIn Fence.wide 9 Tryz.prog 72 #[.agg #[.int .u8 x], .int .i64 k] w fun e W' => e = .returned (.int .i64 (nthI (nums x) k)) ∧ Below w.heap.size w W' := by
  have h3 := ht.2
  have hmx : Tryz.prog.follows Departure.mixedOrders = true := by kernel_rfl
  refine callsIn_of_wp_marks Tryz.func72 rfl trivial ?_ rfl
  simp only [Tryz.ntmps72, List.size_toArray, List.length_cons, List.length_nil, Nat.reduceAdd, Nat.reduceSub, Array.replicate_succ, Array.replicate_zero, List.push_toArray, List.append_toArray, List.nil_append, List.cons_append]
  gi_wp2_with (refine ⟨trivial, ?_⟩; gi_at_call 96; refine (callsIn_wide.2 (all8 _ _)).mono ?_; rintro e w' ⟨rfl, rfl⟩)
  have hB0 : Below w.heap.size w ((((w.alloc (.cells #[.int .u8 x] 72)).alloc (.cells #[.int .i64 k] 3)).alloc (.cells #[.int .i64 0] 3)).alloc (.cells #[.int .u8 x] 72)) := ((((Below.refl _ w).alloc (Nat.le_refl _) _).alloc (by simp) _).alloc (by simp; omega) _).alloc (by simp; omega) _
  have bS := (((Boxed.new w 72 (.int .u8 x)).alloc (.cells #[.int .i64 k] 3)).alloc (.cells #[.int .i64 0] 3)).alloc (.cells #[.int .u8 x] 72)
  have bK := ((Boxed.new (w.alloc (.cells #[.int .u8 x] 72)) 3 (.int .i64 k)).alloc (.cells #[.int .i64 0] 3)).alloc (.cells #[.int .u8 x] 72)
  have bR := (Boxed.new ((w.alloc (.cells #[.int .u8 x] 72)).alloc (.cells #[.int .i64 k] 3)) 3 (.int .i64 0)).alloc (.cells #[.int .u8 x] 72)
  have bN := Boxed.new (((w.alloc (.cells #[.int .u8 x] 72)).alloc (.cells #[.int .i64 k] 3)).alloc (.cells #[.int .i64 0] 3)) 72 (.int .u8 x)
  simp only [World.size_alloc] at bK bR bN
  generalize hW0 : ((((w.alloc (.cells #[.int .u8 x] 72)).alloc (.cells #[.int .i64 k] 3)).alloc (.cells #[.int .i64 0] 3)).alloc (.cells #[.int .u8 x] 72)) = W0 at *
  have hs0 : W0.heap.size = w.heap.size + 1 + 1 + 1 + 1 := by rw [← hW0]; simp
  clear hW0
  refine wpIn_rangeFunc_ownG rfl (by decide) (gf := 103) (lb := #[.pointer (some ⟨w.heap.size + 1 + 1 + 1, 0, none⟩)]) rfl trivial (enters_of Tryz.func103 (by kernel_rfl) rfl)
    (all_stops8 8 (w.heap.size + 1 + 1 + 1) x hx W0 (by omega) (ht.over hB0) bN.cell) KpB.t (KpB.b (by omega) (by omega)) (Below.refl _ _) (fun _ => rfl)
    (fun pre W => Below W0.heap.size W0 W ∧ ∀ j ∈ pre, ((toI (j.val : Int) (nums x)).length : Int) ≠ k)
    (fun c pre W => c = .ret ∧ ∃ (pre0 : List (Fin 64)) (j : Fin 64), pre = pre0 ++ [j] ∧ ((toI (j.val : Int) (nums x)).length : Int) = k ∧ Boxed W (w.heap.size + 1 + 1) 3 (.int .i64 (j.val : Int)) ∧ Below w.heap.size w W)
    (OwnFrom.and (ownFrom_below (Nat.le_refl _) (Nat.le_refl _)) (ownFrom_pure _ _))
    (fun c s X Y row hs hg hr => by
      obtain ⟨hc, pre0, j, h1, h2, h4, h5⟩ := hs
      refine ⟨hc, pre0, j, h1, h2, (boxed_own (β := Unit) _ _ (fun _ => .int .i64 (j.val : Int))) () X Y row h4 hg (fun r e => (hr r e).2), ?_⟩
      exact (ownFrom_below (β := Unit) (n₀ := w.heap.size) (B := W0.heap.size) (w₀ := w) (Nat.le_refl _) (by omega)) () X Y row h5 hg hr)
    ⟨Below.refl _ _, fun j hj => by cases hj⟩
    (fun j => { tmps := #[.agg #[.int .u8 x], .int .i64 k, .pointer (some ⟨w.heap.size, 0, none⟩), .pointer (some ⟨w.heap.size + 1, 0, none⟩), .pointer (some ⟨w.heap.size + 1 + 1, 0, none⟩), .int .i64 (j.val : Int), .agg #[.int .u8 x], .func (.func 103) #[] #[.pointer (some ⟨w.heap.size + 1 + 1 + 1, 0, none⟩)], .int .i64 (j.val : Int), undef, undef, undef, undef, undef, undef], defers := [] }) ?assign ?body ?done ?stop
  case assign =>
    intro l j W K hK
    gi_wp2
    exact hK
  case body =>
    rintro l pre j W ⟨hB, hne⟩ hlt
    have cS : W.cell? ⟨w.heap.size, 0, none⟩ = some (.int .u8 x) := (hB.cell (p := ⟨w.heap.size, 0, none⟩) (by show w.heap.size < _; omega)).trans bS.cell
    have cK : W.cell? ⟨w.heap.size + 1, 0, none⟩ = some (.int .i64 k) := (hB.cell (p := ⟨w.heap.size + 1, 0, none⟩) (by show w.heap.size + 1 < _; omega)).trans bK.cell
    have bR1 : Boxed W (w.heap.size + 1 + 1) 3 (.int .i64 0) := (hB.block (w.heap.size + 1 + 1) (by omega)).trans bR
    have hWs := hB.size
    obtain ⟨r, hr⟩ : ∃ r, (toI (j.val : Int) (nums x)).length = r := ⟨_, rfl⟩
    have HR : Hid (∀ W, Calls Tryz.prog 71 #[.agg #[.int .u8 x], .int .i64 (j.val : Int)] W fun e w' => e = .returned (.int .i64 r) ∧ Below W.heap.size W w') := by rw [← hr]; exact rank8 x hx _
    have Hr : Hid ((toI (j.val : Int) (nums x)).length = r) := hr
    clear hr
    by_cases hk : (r : Int) = k
    · have hd : ((r : Int) == k) = true := by simpa using hk
      have Hk : Hid ((r : Int) = k) := hk
      clear hk
      gi_wp2
      gi_region_with_o (refine ⟨trivial, ?_⟩; gi_at_call 71; refine (CallsIn.inRound l (callsIn_wide.2 (HR.out _))).mono ?_; rintro e w1 ⟨rfl, hb⟩; have cK1 : w1.cell? ⟨w.heap.size + 1, 0, none⟩ = some (.int .i64 k) := (hb.cell (p := ⟨w.heap.size + 1, 0, none⟩) (by show w.heap.size + 1 < _; simp; omega)).trans cK; have bR2 : Boxed w1 (w.heap.size + 1 + 1) 3 (.int .i64 0) := (hb.block (w.heap.size + 1 + 1) (by simp; omega)).trans bR1; have cR2 := bR2.cell; have fR2 := bR2.frozen)
      all_goals gi_wp2
      all_goals exact ⟨(((KeepsOthers.drew W).trans (keepsO hb)).trans (KeepsOthers.setCell _ _ _)).from _, rfl, pre, j, rfl, by rw [Hr.out]; exact Hk.out, bR2.set _, (((hB0.trans (hB.mono (by omega))).drew).trans (hb.mono (by simp; omega))).setCell (p := ⟨w.heap.size + 1 + 1, 0, none⟩) (by show w.heap.size ≤ w.heap.size + 1 + 1; omega) _⟩
    · have hd : ((r : Int) == k) = false := by simpa using hk
      have Hk : Hid (¬ (r : Int) = k) := hk
      clear hk
      gi_wp2
      gi_region_with_o (refine ⟨trivial, ?_⟩; gi_at_call 71; refine (CallsIn.inRound l (callsIn_wide.2 (HR.out _))).mono ?_; rintro e w1 ⟨rfl, hb⟩; have cK1 : w1.cell? ⟨w.heap.size + 1, 0, none⟩ = some (.int .i64 k) := (hb.cell (p := ⟨w.heap.size + 1, 0, none⟩) (by show w.heap.size + 1 < _; simp; omega)).trans cK; have bR2 : Boxed w1 (w.heap.size + 1 + 1) 3 (.int .i64 0) := (hb.block (w.heap.size + 1 + 1) (by simp; omega)).trans bR1; have cR2 := bR2.cell; have fR2 := bR2.frozen)
      all_goals gi_wp2
      all_goals exact ⟨((KeepsOthers.drew W).trans (keepsO hb)).from _, KpB.of_below (n := W.heap.size) ((Below.refl _ W).drew.trans hb) (by omega) (by omega), hB.drew.trans (hb.mono hWs), fun i hi => by
        rcases List.mem_append.1 hi with hi | hi
        · exact hne i hi
        · obtain rfl := List.mem_singleton.1 hi
          rw [Hr.out]; exact Hk.out⟩
  case done =>
    rintro D ys W hD rfl ⟨hB, hne⟩ hK
    have bR1 : Boxed W (w.heap.size + 1 + 1) 3 (.int .i64 0) := (hB.block (w.heap.size + 1 + 1) (by omega)).trans bR
    have cR1 := bR1.cell
    have fR1 := bR1.frozen
    have e := nth_miss (sorted_nums x) hne
    have He : Hid (nthI (nums x) k = -1) := e
    clear e hne
    gi_wp2
    have hK1 := (KeepsOthers.setCell W ⟨w.heap.size + 1 + 1, 0, none⟩ (.int .i64 (-1))).same D _ hK rfl
    have bE := bR1.set (.int .i64 (-1))
    have bE2 := bE.kept (grownBy_putObj' _ D (.deferred none)) (by intro e; cases e; omega)
    have cE := bE2.cell
    refine ⟨by simp, .inl ⟨_, _, rfl, run_takeDeferred hK1, ?_⟩⟩
    refine ⟨.int .i64 (-1), by simp [results, Tryz.results72, go_sem, cE], by rw [He.out], ?_⟩
    exact ((hB0.trans (hB.mono (by omega))).setCell (p := ⟨w.heap.size + 1 + 1, 0, none⟩) (by show w.heap.size ≤ w.heap.size + 1 + 1; omega) _).trans (belowK_b (w := w) (Nat.le_refl _) _ D _ _ (by omega) hK1 rfl rfl)
  case stop =>
    rintro D c pre W hD hp ⟨rfl, pre0, j, rfl, hk, hbR, hB⟩ hK
    obtain ⟨rest, hrest⟩ := hp
    have e := nth_hit (pre := pre0) (rest := rest) (sorted_nums x) (by rw [← hrest]; simp) hk
    have He : Hid (nthI (nums x) k = (j.val : Int)) := e
    clear e hk
    gi_wp2
    have bE2 := hbR.kept (grownBy_putObj' _ D (.deferred none)) (by intro e; cases e; omega)
    have cE := bE2.cell
    refine ⟨by simp, .inl ⟨_, _, rfl, run_takeDeferred hK, ?_⟩⟩
    refine ⟨.int .i64 (j.val : Int), by simp [results, Tryz.results72, go_sem, cE], by rw [He.out], ?_⟩
    exact hB.trans (belowK_b (w := w) (Nat.le_refl _) _ D _ _ (by omega) hK rfl rfl)
set_option maxRecDepth 100000 in
set_option maxHeartbeats 4000000 in
theorem nthC64 (x : Nat) (hx : x < 18446744073709551616) (k : Int) (w : World) (ht : Tab w) :
    CallsIn Fence.wide 9 Tryz.prog 56 #[.agg #[.int .u64 x], .int .i64 k] w fun e W' => e = .returned (.int .i64 (nthI (nums x) k)) ∧ Below w.heap.size w W' := by
  have h3 := ht.2
  have hmx : Tryz.prog.follows Departure.mixedOrders = true := by kernel_rfl
  refine callsIn_of_wp_marks Tryz.func56 rfl trivial ?_ rfl
  simp only [Tryz.ntmps56, List.size_toArray, List.length_cons, List.length_nil, Nat.reduceAdd, Nat.reduceSub, Array.replicate_succ, Array.replicate_zero, List.push_toArray, List.append_toArray, List.nil_append, List.cons_append]
  gi_wp2_with (refine ⟨trivial, ?_⟩; gi_at_call 89; refine (callsIn_wide.2 (all64 _ _)).mono ?_; rintro e w' ⟨rfl, rfl⟩)
  have hB0 : Below w.heap.size w ((((w.alloc (.cells #[.int .u64 x] 60)).alloc (.cells #[.int .i64 k] 3)).alloc (.cells #[.int .i64 0] 3)).alloc (.cells #[.int .u64 x] 60)) := ((((Below.refl _ w).alloc (Nat.le_refl _) _).alloc (by simp) _).alloc (by simp; omega) _).alloc (by simp; omega) _
  have bS := (((Boxed.new w 60 (.int .u64 x)).alloc (.cells #[.int .i64 k] 3)).alloc (.cells #[.int .i64 0] 3)).alloc (.cells #[.int .u64 x] 60)
  have bK := ((Boxed.new (w.alloc (.cells #[.int .u64 x] 60)) 3 (.int .i64 k)).alloc (.cells #[.int .i64 0] 3)).alloc (.cells #[.int .u64 x] 60)
  have bR := (Boxed.new ((w.alloc (.cells #[.int .u64 x] 60)).alloc (.cells #[.int .i64 k] 3)) 3 (.int .i64 0)).alloc (.cells #[.int .u64 x] 60)
  have bN := Boxed.new (((w.alloc (.cells #[.int .u64 x] 60)).alloc (.cells #[.int .i64 k] 3)).alloc (.cells #[.int .i64 0] 3)) 60 (.int .u64 x)
  simp only [World.size_alloc] at bK bR bN
  generalize hW0 : ((((w.alloc (.cells #[.int .u64 x] 60)).alloc (.cells #[.int .i64 k] 3)).alloc (.cells #[.int .i64 0] 3)).alloc (.cells #[.int .u64 x] 60)) = W0 at *
  have hs0 : W0.heap.size = w.heap.size + 1 + 1 + 1 + 1 := by rw [← hW0]; simp
  clear hW0
  refine wpIn_rangeFunc_ownG rfl (by decide) (gf := 102) (lb := #[.pointer (some ⟨w.heap.size + 1 + 1 + 1, 0, none⟩)]) rfl trivial (enters_of Tryz.func102 (by kernel_rfl) rfl)
    (all_stops64 8 (w.heap.size + 1 + 1 + 1) x hx W0 (by omega) (ht.over hB0) bN.cell) KpB.t (KpB.b (by omega) (by omega)) (Below.refl _ _) (fun _ => rfl)
    (fun pre W => Below W0.heap.size W0 W ∧ ∀ j ∈ pre, ((toI (j.val : Int) (nums x)).length : Int) ≠ k)
    (fun c pre W => c = .ret ∧ ∃ (pre0 : List (Fin 64)) (j : Fin 64), pre = pre0 ++ [j] ∧ ((toI (j.val : Int) (nums x)).length : Int) = k ∧ Boxed W (w.heap.size + 1 + 1) 3 (.int .i64 (j.val : Int)) ∧ Below w.heap.size w W)
    (OwnFrom.and (ownFrom_below (Nat.le_refl _) (Nat.le_refl _)) (ownFrom_pure _ _))
    (fun c s X Y row hs hg hr => by
      obtain ⟨hc, pre0, j, h1, h2, h4, h5⟩ := hs
      refine ⟨hc, pre0, j, h1, h2, (boxed_own (β := Unit) _ _ (fun _ => .int .i64 (j.val : Int))) () X Y row h4 hg (fun r e => (hr r e).2), ?_⟩
      exact (ownFrom_below (β := Unit) (n₀ := w.heap.size) (B := W0.heap.size) (w₀ := w) (Nat.le_refl _) (by omega)) () X Y row h5 hg hr)
    ⟨Below.refl _ _, fun j hj => by cases hj⟩
    (fun j => { tmps := #[.agg #[.int .u64 x], .int .i64 k, .pointer (some ⟨w.heap.size, 0, none⟩), .pointer (some ⟨w.heap.size + 1, 0, none⟩), .pointer (some ⟨w.heap.size + 1 + 1, 0, none⟩), .int .i64 (j.val : Int), .agg #[.int .u64 x], .func (.func 102) #[] #[.pointer (some ⟨w.heap.size + 1 + 1 + 1, 0, none⟩)], .int .i64 (j.val : Int), undef, undef, undef, undef, undef, undef], defers := [] }) ?assign ?body ?done ?stop
  case assign =>
    intro l j W K hK
    gi_wp2
    exact hK
  case body =>
    rintro l pre j W ⟨hB, hne⟩ hlt
    have cS : W.cell? ⟨w.heap.size, 0, none⟩ = some (.int .u64 x) := (hB.cell (p := ⟨w.heap.size, 0, none⟩) (by show w.heap.size < _; omega)).trans bS.cell
    have cK : W.cell? ⟨w.heap.size + 1, 0, none⟩ = some (.int .i64 k) := (hB.cell (p := ⟨w.heap.size + 1, 0, none⟩) (by show w.heap.size + 1 < _; omega)).trans bK.cell
    have bR1 : Boxed W (w.heap.size + 1 + 1) 3 (.int .i64 0) := (hB.block (w.heap.size + 1 + 1) (by omega)).trans bR
    have hWs := hB.size
    obtain ⟨r, hr⟩ : ∃ r, (toI (j.val : Int) (nums x)).length = r := ⟨_, rfl⟩
    have HR : Hid (∀ W, Calls Tryz.prog 54 #[.agg #[.int .u64 x], .int .i64 (j.val : Int)] W fun e w' => e = .returned (.int .i64 r) ∧ Below W.heap.size W w') := by rw [← hr]; exact rank64 x hx _
    have Hr : Hid ((toI (j.val : Int) (nums x)).length = r) := hr
    clear hr
    by_cases hk : (r : Int) = k
    · have hd : ((r : Int) == k) = true := by simpa using hk
      have Hk : Hid ((r : Int) = k) := hk
      clear hk
      gi_wp2
      gi_region_with_o (refine ⟨trivial, ?_⟩; gi_at_call 54; refine (CallsIn.inRound l (callsIn_wide.2 (HR.out _))).mono ?_; rintro e w1 ⟨rfl, hb⟩; have cK1 : w1.cell? ⟨w.heap.size + 1, 0, none⟩ = some (.int .i64 k) := (hb.cell (p := ⟨w.heap.size + 1, 0, none⟩) (by show w.heap.size + 1 < _; simp; omega)).trans cK; have bR2 : Boxed w1 (w.heap.size + 1 + 1) 3 (.int .i64 0) := (hb.block (w.heap.size + 1 + 1) (by simp; omega)).trans bR1; have cR2 := bR2.cell; have fR2 := bR2.frozen)
      all_goals gi_wp2
      all_goals exact ⟨(((KeepsOthers.drew W).trans (keepsO hb)).trans (KeepsOthers.setCell _ _ _)).from _, rfl, pre, j, rfl, by rw [Hr.out]; exact Hk.out, bR2.set _, (((hB0.trans (hB.mono (by omega))).drew).trans (hb.mono (by simp; omega))).setCell (p := ⟨w.heap.size + 1 + 1, 0, none⟩) (by show w.heap.size ≤ w.heap.size + 1 + 1; omega) _⟩
    · have hd : ((r : Int) == k) = false := by simpa using hk
      have Hk : Hid (¬ (r : Int) = k) := hk
      clear hk
      gi_wp2
      gi_region_with_o (refine ⟨trivial, ?_⟩; gi_at_call 54; refine (CallsIn.inRound l (callsIn_wide.2 (HR.out _))).mono ?_; rintro e w1 ⟨rfl, hb⟩; have cK1 : w1.cell? ⟨w.heap.size + 1, 0, none⟩ = some (.int .i64 k) := (hb.cell (p := ⟨w.heap.size + 1, 0, none⟩) (by show w.heap.size + 1 < _; simp; omega)).trans cK; have bR2 : Boxed w1 (w.heap.size + 1 + 1) 3 (.int .i64 0) := (hb.block (w.heap.size + 1 + 1) (by simp; omega)).trans bR1; have cR2 := bR2.cell; have fR2 := bR2.frozen)
      all_goals gi_wp2
      all_goals exact ⟨((KeepsOthers.drew W).trans (keepsO hb)).from _, KpB.of_below (n := W.heap.size) ((Below.refl _ W).drew.trans hb) (by omega) (by omega), hB.drew.trans (hb.mono hWs), fun i hi => by
        rcases List.mem_append.1 hi with hi | hi
        · exact hne i hi
        · obtain rfl := List.mem_singleton.1 hi
          rw [Hr.out]; exact Hk.out⟩
  case done =>
    rintro D ys W hD rfl ⟨hB, hne⟩ hK
    have bR1 : Boxed W (w.heap.size + 1 + 1) 3 (.int .i64 0) := (hB.block (w.heap.size + 1 + 1) (by omega)).trans bR
    have cR1 := bR1.cell
    have fR1 := bR1.frozen
    have e := nth_miss (sorted_nums x) hne
    have He : Hid (nthI (nums x) k = -1) := e
    clear e hne
    gi_wp2
    have hK1 := (KeepsOthers.setCell W ⟨w.heap.size + 1 + 1, 0, none⟩ (.int .i64 (-1))).same D _ hK rfl
    have bE := bR1.set (.int .i64 (-1))
    have bE2 := bE.kept (grownBy_putObj' _ D (.deferred none)) (by intro e; cases e; omega)
    have cE := bE2.cell
    refine ⟨by simp, .inl ⟨_, _, rfl, run_takeDeferred hK1, ?_⟩⟩
    refine ⟨.int .i64 (-1), by simp [results, Tryz.results56, go_sem, cE], by rw [He.out], ?_⟩
    exact ((hB0.trans (hB.mono (by omega))).setCell (p := ⟨w.heap.size + 1 + 1, 0, none⟩) (by show w.heap.size ≤ w.heap.size + 1 + 1; omega) _).trans (belowK_b (w := w) (Nat.le_refl _) _ D _ _ (by omega) hK1 rfl rfl)
  case stop =>
    rintro D c pre W hD hp ⟨rfl, pre0, j, rfl, hk, hbR, hB⟩ hK
    obtain ⟨rest, hrest⟩ := hp
    have e := nth_hit (pre := pre0) (rest := rest) (sorted_nums x) (by rw [← hrest]; simp) hk
    have He : Hid (nthI (nums x) k = (j.val : Int)) := e
    clear e hk
    gi_wp2
    have bE2 := hbR.kept (grownBy_putObj' _ D (.deferred none)) (by intro e; cases e; omega)
    have cE := bE2.cell
    refine ⟨by simp, .inl ⟨_, _, rfl, run_takeDeferred hK, ?_⟩⟩
    refine ⟨.int .i64 (j.val : Int), by simp [results, Tryz.results56, go_sem, cE], by rw [He.out], ?_⟩
    exact hB.trans (belowK_b (w := w) (Nat.le_refl _) _ D _ _ (by omega) hK rfl rfl)
end Go.Proofs.YtpbjmdkfijlooaaGreatDoor
