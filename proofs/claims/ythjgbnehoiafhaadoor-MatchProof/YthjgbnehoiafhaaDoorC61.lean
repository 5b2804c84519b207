/- Choose's iterator, walked. -/
import Derived.Test.YthjgbnehoiafhaaDoorC6N
import Derived.Test.YthjgbnehoiafhaaDoorC6All
import Derived.Deep.RegionHeld3
namespace Go.Proofs.YthjgbnehoiafhaaDoor
open Go.RowKit Go.Shelf
attribute [local go_sem] Oper.semAt_some
def encT (t : Nat) : Array Value := #[.agg #[.int .u64 (t : Int)]]
theorem keep2k {W0 W w1 : World} {b b' : Nat} {u v : Value} (h : W.cell? ⟨b, 0, none⟩ = some u ∧ W.cell? ⟨b', 0, none⟩ = some v ∧ Below W0.heap.size W0 W) (hb : Below W.heap.size W w1) :
    w1.cell? ⟨b, 0, none⟩ = some u ∧ w1.cell? ⟨b', 0, none⟩ = some v ∧ Below W0.heap.size W0 w1 := keep2b h hb
/-- What stands between two rounds. -/
structure Gc (l sb s yb B : Nat) (V : World) : Prop where
  sz : B ≤ V.heap.size
  cs : V.cell? ⟨sb, 0, none⟩ = some (.int .u64 (s : Int))
  tb : Tab V
  by_ : Boxed V yb 102 (.func (.yield l) #[] #[])
theorem Gc.below {l sb s yb B n : Nat} {V V' : World} (h : Gc l sb s yb B V) (hb : Below n V V') (h1 : sb < n) (h2 : yb < n) (h3 : 1 ≤ n) : Gc l sb s yb B V' :=
  ⟨Nat.le_trans h.sz hb.size, (hb.cell (p := ⟨sb, 0, none⟩) h1).trans h.cs, h.tb.below h3 hb, (hb.block _ h2).trans h.by_⟩
theorem Gc.own {l sb s yb B : Nat} (h1 : sb < B) (h2 : yb < B) (h3 : 1 ≤ B) : OwnFrom (β := Unit) B (fun _ V => Gc l sb s yb B V) := fun _ Y _ _ h hg hr =>
  h.below (n := B) ((Below.refl _ Y).grown hg h.sz fun k e => (hr k e).1) h1 h2 h3
theorem Gc.round {l sb s yb B b0 : Nat} {V V' : World} (h : Gc l sb s yb B V) (hk : KpB sb V V') (hq : Kept b0 V V') (h1 : b0 ≤ yb) : Gc l sb s yb B V' :=
  ⟨Nat.le_trans h.sz hq.1, hk.1.trans h.cs, hk.2 h.tb, (hq.2 _ h1 h.by_.lt).trans h.by_⟩
set_option maxRecDepth 100000 in
set_option maxHeartbeats 1000000 in
theorem choose_none (z : Int) (s n kb sb : Nat) (w : World) (hs : s < 18446744073709551616) (hz : z < 0 ∨ (pop64 s : Int) < z) (hkb : kb < w.heap.size) (hsb : sb < w.heap.size) (hk : w.cell? ⟨kb, 0, none⟩ = some (.int .i64 z)) (hc : w.cell? ⟨sb, 0, none⟩ = some (.int .u64 (s : Int))) :
    SeqL n Tryd.prog 74 #[.pointer (some ⟨kb, 0, none⟩), .pointer (some ⟨sb, 0, none⟩)] encT (KpB sb) [] w := fun l J Jx W hW hJ _ _ h0 => by
  replace hk := (hW.cell (p := ⟨kb, 0, none⟩) hkb).trans hk
  replace hc := (hW.cell (p := ⟨sb, 0, none⟩) hsb).trans hc
  have hB0 : Below W.heap.size W (W.alloc (.cells #[.func (.yield l) #[] #[]] 102)) := (Below.refl _ W).alloc (Nat.le_refl _) _
  have KL : Hid (∀ X, Calls Tryd.prog 59 #[.agg #[.int .u64 (s : Int)]] X fun e w' => e = .returned (.int .i64 (pop64 s : Nat)) ∧ Below X.heap.size X w') := fun X => by
    have := len64 s hs X
    exact this
  clear hs
  generalize pop64 s = q at *
  refine (callsIn_wide (n := n)).2 ?_
  have hfin : Hid (∀ X, Below W.heap.size W X → J [] X) := fun X hX => hJ _ _ _ none h0 (grown_none hX) (fun r e => by cases e)
  clear hJ h0
  go_enter Tryd.func74, Tryd.ntmps74
  go_wp2
  generalize hW0 : W.alloc (.cells #[.func (.yield l) #[] #[]] 102) = W0 at *
  have k0 := (hB0.cell (p := ⟨kb, 0, none⟩) (cell_lt hk)).trans hk
  have c0 := (hB0.cell (p := ⟨sb, 0, none⟩) (cell_lt hc)).trans hc
  have hS0 : Hid (W0.drew.cell? ⟨kb, 0, none⟩ = some (.int .i64 z) ∧ W0.drew.cell? ⟨sb, 0, none⟩ = some (.int .u64 (s : Int)) ∧ Below W0.heap.size W0 W0.drew) := ⟨k0, c0, (Below.refl _ _).drew⟩
  clear hS0
  by_cases hn : z < 0
  · clear KL hz
    go_region_with (fail)
    all_goals
      go_wp2
      refine bodyPost_ret (results_none rfl _ _ _) rfl ?_
      exact ⟨⟨_, rfl⟩, .inl (hfin.out _ (hB0.drew))⟩
  · have hz2 : (q : Int) < z := by omega
    have hcell : Hid (∀ X, Below W0.heap.size W0 X → X.cell? ⟨kb, 0, none⟩ = some (.int .i64 z)) := fun X hX => (hX.cell (p := ⟨kb, 0, none⟩) (cell_lt k0)).trans k0
    clear hz
    go_region_with (go_at_call 59; refine (KL.out _).mono ?_; rintro e w1 ⟨rfl, hb⟩; have hB1 : Below W0.heap.size W0 w1 := ((Below.refl _ W0).drew).trans hb; have k1 := hcell.out _ hB1)
    all_goals
      go_wp2
      refine bodyPost_ret (results_none rfl _ _ _) rfl ?_
      exact ⟨⟨_, rfl⟩, .inl (hfin.out _ (hB0.trans (hB1.mono hB0.size)))⟩
set_option maxRecDepth 100000 in
set_option maxHeartbeats 1000000 in
theorem choose_zero (s n kb sb : Nat) (w : World) (hs : s < 18446744073709551616) (hkb : kb < w.heap.size) (hsb : sb < w.heap.size) (hk : w.cell? ⟨kb, 0, none⟩ = some (.int .i64 0)) (hc : w.cell? ⟨sb, 0, none⟩ = some (.int .u64 (s : Int))) :
    SeqL n Tryd.prog 74 #[.pointer (some ⟨kb, 0, none⟩), .pointer (some ⟨sb, 0, none⟩)] encT (KpB sb) (chF 0 s) w := fun l J Jx W hW hJ _ hY h0 => by
  replace hk := (hW.cell (p := ⟨kb, 0, none⟩) hkb).trans hk
  replace hc := (hW.cell (p := ⟨sb, 0, none⟩) hsb).trans hc
  have hB0 : Below W.heap.size W (W.alloc (.cells #[.func (.yield l) #[] #[]] 102)) := (Below.refl _ W).alloc (Nat.le_refl _) _
  have bY := Boxed.new W 102 (.func (.yield l) #[] #[])
  have KL : Hid (∀ X, Calls Tryd.prog 59 #[.agg #[.int .u64 (s : Int)]] X fun e w' => e = .returned (.int .i64 (pop64 s : Nat)) ∧ Below X.heap.size X w') := fun X => by
    have := len64 s hs X
    exact this
  clear hs
  generalize pop64 s = q at *
  have hYY : Hid (∀ X, Below W.heap.size W X → YieldAt Fence.wide (n - 1) Tryd.prog l #[.agg #[.int .u64 0]] X fun e V' => ∃ b, e = .returned (.bool b) ∧ (J [0] V' ∨ (∃ pre, pre <+: [0] ∧ Jx pre V'))) := fun X hX => by
    refine YieldAt.mono (hY [] 0 X (hJ _ _ _ none h0 (grown_none hX) (fun r e => by cases e)) (List.prefix_refl _)) ?_
    rintro e V' (⟨rfl, h2, _⟩ | ⟨rfl, h2, _⟩)
    · exact ⟨true, rfl, .inl h2⟩
    · exact ⟨false, rfl, .inr ⟨_, List.prefix_refl _, h2⟩⟩
  clear hJ h0 hY
  show CallsIn _ _ _ _ _ _ fun e W' => (∃ v, e = .returned v) ∧ (J [0] W' ∨ (∃ pre, pre <+: [0] ∧ Jx pre W'))
  refine callsIn_of_wp_marks Tryd.func74 rfl trivial ?_ rfl
  simp only [Tryd.ntmps74, List.size_toArray, List.length_cons, List.length_nil, Nat.reduceAdd, Nat.reduceSub, Array.replicate_succ, Array.replicate_zero, List.push_toArray, List.append_toArray, List.nil_append, List.cons_append]
  refine wpIn_wide.2 ?_
  go_wp2
  generalize hW0 : W.alloc (.cells #[.func (.yield l) #[] #[]] 102) = W0 at *
  clear hW0
  have k0 := (hB0.cell (p := ⟨kb, 0, none⟩) (cell_lt hk)).trans hk
  have c0 := (hB0.cell (p := ⟨sb, 0, none⟩) (cell_lt hc)).trans hc
  have hq : ¬ ((q : Int) < 0) := by omega
  have hS0 : Hid (W0.drew.cell? ⟨kb, 0, none⟩ = some (.int .i64 0) ∧ W0.drew.cell? ⟨sb, 0, none⟩ = some (.int .u64 (s : Int)) ∧ Below W0.heap.size W0 W0.drew) := ⟨k0, c0, (Below.refl _ _).drew⟩
  go_region_held3 (fun X => X.cell? ⟨kb, 0, none⟩ = some (.int .i64 0) ∧ X.cell? ⟨sb, 0, none⟩ = some (.int .u64 (s : Int)) ∧ Below W0.heap.size W0 X) (first | assumption | (exact keep2b (by assumption) hb) | (exact hS0.out)) (first | (go_at_call 59; refine (KL.out _).mono ?_; rintro e w1 ⟨rfl, hb⟩))
  have hB1 : Below W0.heap.size W0 w1 := ‹_ ∧ _ ∧ Below W0.heap.size W0 w1›.2.2
  have k1 : w1.cell? ⟨kb, 0, none⟩ = some (.int .i64 0) := ‹_ ∧ _ ∧ Below W0.heap.size W0 w1›.1
  have y1 := (bxb8 bY hB1).cell
  obtain ⟨fn, tmps, assign, body, hy, hR⟩ := hYY.out w1 (hB0.trans (hB1.mono hB0.size))
  have hq1 : decide ((q : Int) < 0) = false := by simp
  rename_i K hK _
  refine hK _ _ ?_
  refine (wpIn_wide (n := n)).1 ?_
  gi_wp2
  refine (wpIn_wide (n := n)).1 ?_
  gi_wp2_with (refine ⟨fun h => absurd h (by decide), hR.mono ?_⟩; rintro e V1 ⟨b, rfl, h2⟩)
  exact ⟨_, results_none rfl _ _ _, ⟨_, rfl⟩, h2⟩
end Go.Proofs.YthjgbnehoiafhaaDoor
