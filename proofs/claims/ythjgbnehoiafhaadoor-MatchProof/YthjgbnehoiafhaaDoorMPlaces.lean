/- Places: the numbers, rising, in new memory. -/
import Derived.Test.YthjgbnehoiafhaaDoorMSettle
import Derived.Test.YthjgbnehoiafhaaDoorOnes
namespace Go.Proofs.YthjgbnehoiafhaaDoor.M
open Go.RowKit Go.Shelf
attribute [local go_sem] Oper.semAt_some
def intsOf (l : List (Fin 64)) : List Value := l.map fun k => Value.int .i64 (k.val : Int)
theorem info3 : (Tryd.prog.info? 3).map (fun i => (i.zero, i.size, i.bytes)) = some (some (.int .i64 0), 1, 8) := by kernel_rfl
theorem nums_len (x : Nat) : (nums x).length ≤ 64 := by
  unfold nums
  exact Nat.le_trans (List.length_filter_le _ _) (by simp)
theorem cell_al {W : World} {b i : Nat} {v : Value} (h : W.cell? ⟨b, i, none⟩ = some v) (o : Obj) : (W.alloc o).cell? ⟨b, i, none⟩ = some v :=
  (((Below.refl W.heap.size W).alloc (Nat.le_refl _) o).cell (p := ⟨b, i, none⟩) (cell_lt h)).trans h
theorem owns_shape {W : World} {base : Nat} {e : TypeId} {size : Nat} {v : Value} {n : Nat} {xs : List Value} (h : W.ownsRow base e size v n xs) : ∃ oa cap, v = .slice oa n cap := by
  rcases h.2 with ⟨rfl, rfl⟩ | ⟨g, cap, _, rfl, _⟩
  · exact ⟨none, 0, rfl⟩
  · exact ⟨_, cap, rfl⟩
theorem intsOf_snoc (l : List (Fin 64)) (k : Fin 64) : intsOf (l ++ [k]) = intsOf l ++ [.int .i64 (k.val : Int)] := by simp [intsOf]
theorem cell_grown {w1 w2 : World} {b i : Nat} {v : Value} {u : Option Value} (h : w1.cell? ⟨b, i, none⟩ = u) (hg : w1.grownBy w2 none) (hb : b < w1.heap.size) (hu : u = some v) : w2.cell? ⟨b, i, none⟩ = some v := by
  have := hg.block b hb (by simp)
  rw [← hu, ← h]
  simp [World.cell?, this]
theorem box_grown {W w1 : World} {n₀ B Bx : Nat} {t tx e : TypeId} {size : Nat} {v v' vx : Value} {k m : Nat} {xs ys : List Value}
    (hv : Boxed W B t v) (hx : Boxed W Bx tx vx) (hte : t ≠ e) (htx : tx ≠ e) (hne : Bx ≠ B) (hrow : W.ownsRow n₀ e size v k xs) (hn₀ : n₀ ≤ W.heap.size) (hB : n₀ ≤ B)
    (hown' : w1.ownsRow n₀ e size v' m ys) (hgrow : W.grownBy w1 v.ownBlock) :
    Boxed w1 B t v ∧ Boxed (w1.setCell ⟨B, 0, none⟩ v') B t v' ∧ (w1.setCell ⟨B, 0, none⟩ v').ownsRow n₀ e size v' m ys ∧ Boxed (w1.setCell ⟨B, 0, none⟩ v') Bx tx vx ∧ KeepsOthers W (w1.setCell ⟨B, 0, none⟩ v') ∧ Below n₀ W (w1.setCell ⟨B, 0, none⟩ v') := by
  have hv1 : Boxed w1 B t v := hv.kept hgrow (hv.not_row hte hrow)
  have hx1 : Boxed w1 Bx tx vx := hx.kept hgrow (hx.not_row htx hrow)
  refine ⟨hv1, hv1.set v', hown'.kept (grownBy_setCell' w1 B v') (.inr (hv1.not_row hte hown').symm), hx1.other hne v', ?_, ?_⟩
  · refine (KeepsOthers.of_grownBy hgrow fun j o ej hj => ?_).trans (KeepsOthers.setCell _ _ _)
    rcases hrow.2 with ⟨rfl, _⟩ | ⟨g, cap, cur, rfl, _, hgb, _⟩
    · simp [Value.ownBlock] at ej
    · obtain rfl : g = j := by simpa [Value.ownBlock] using ej
      rw [hgb] at hj; cases hj; rfl
  · refine ((Below.refl n₀ W).grown hgrow hn₀ fun j ej => ?_).setCell (p := ⟨B, 0, none⟩) hB v'
    rcases hrow.2 with ⟨rfl, _⟩ | ⟨g, cap, cur, rfl, hb, _, _⟩
    · simp [Value.ownBlock] at ej
    · obtain rfl : g = j := by simpa [Value.ownBlock] using ej
      exact hb
set_option maxRecDepth 100000 in
set_option maxHeartbeats 4000000 in
theorem placesC64 (x : Nat) (hx : x < 18446744073709551616) (w : World) (ht : Tab w) :
    CallsIn Fence.wide 9 Tryd.prog 60 #[.agg #[.int .u64 x]] w fun e W' => ∃ v, e = .returned v ∧ W'.ownsRow w.heap.size 3 1 v (nums x).length (intsOf (nums x)) ∧ Below w.heap.size w W' := by
  obtain ⟨i0, hi, hz0, hz1, hz2⟩ := info_parts info3
  have hnl := nums_len x
  have h3 := ht.2
  have KL := hide' (len64 x hx)
  obtain ⟨m, hm⟩ : ∃ m, (nums x).length = m := ⟨_, rfl⟩
  rw [hm] at KL hnl
  refine callsIn_of_wp_marks Tryd.func60 rfl trivial ?_ rfl
  simp only [Tryd.ntmps60, List.size_toArray, List.length_cons, List.length_nil, Nat.reduceAdd, Nat.reduceSub, Array.replicate_succ, Array.replicate_zero, List.push_toArray, List.append_toArray, List.nil_append, List.cons_append]
  have Hm := hide' hm
  clear hm
  gi_wp2_with (first | (refine ⟨trivial, ?_⟩; gi_at_call 59; refine (callsIn_wide.2 (KL.out _)).mono ?_; rintro e w1 ⟨rfl, hb1⟩; have z1 : w.heap.size < w1.heap.size := (by have := hb1.size; simp at this; omega)) | (gi_at_make; refine wpListIn_make_own _ rfl _ _ 23 rfl w.heap.size 3 i0 (.int .i64 0) 1 Tryd.underlying23 hi hz0 hz1 .i64 .i64 _ m rfl rfl rfl (by rw [hz2]; omega) (by unfold maxLen; omega) (by omega) ?_; intro w2 hown hgrow; have cs : w2.cell? ⟨w.heap.size, 0, none⟩ = some (.int .u64 x) := cell_grown (hb1.cell (p := ⟨w.heap.size, 0, none⟩) (by show w.heap.size < _; simp)) hgrow z1 (by simp); have cs' := fun o => cell_al cs o) | (refine ⟨trivial, ?_⟩; gi_at_call 37; refine (callsIn_wide.2 (all64 _ _)).mono ?_; rintro e w' ⟨rfl, rfl⟩))
  have z2 : w1.heap.size ≤ w2.heap.size := hgrow.size
  have B2 : Below w.heap.size w w2 := (((Below.refl _ w).alloc (Nat.le_refl _) _).trans (hb1.mono (by simp))).grown hgrow (by omega) (fun j ej => by cases ej)
  have hB0 : Below w.heap.size w ((w2.alloc (.cells #[.slice (some ⟨w1.heap.size, 0, none⟩) 0 m] 23)).alloc (.cells #[.int .u64 x] 66)) := (B2.alloc (by omega) _).alloc (by simp; omega) _
  have bP := (Boxed.new w2 23 (.slice (some ⟨w1.heap.size, 0, none⟩) 0 m)).alloc (.cells #[.int .u64 x] 66)
  have bN := Boxed.new (w2.alloc (.cells #[.slice (some ⟨w1.heap.size, 0, none⟩) 0 m] 23)) 66 (.int .u64 x)
  have bR := (hown.alloc (.cells #[.slice (some ⟨w1.heap.size, 0, none⟩) 0 m] 23)).alloc (.cells #[.int .u64 x] 66)
  simp only [World.size_alloc] at bN
  generalize hW0 : ((w2.alloc (.cells #[.slice (some ⟨w1.heap.size, 0, none⟩) 0 m] 23)).alloc (.cells #[.int .u64 x] 66)) = W0 at *
  have hs0 : W0.heap.size = w2.heap.size + 1 + 1 := by rw [← hW0]; simp
  clear hW0 cs cs' hown hgrow hb1 B2
  refine wpIn_rangeFunc_ownG rfl (by decide) (gf := 54) (lb := #[.pointer (some ⟨w2.heap.size + 1, 0, none⟩)]) rfl trivial (enters_of Tryd.func54 (by kernel_rfl) rfl)
    (all_stops64 8 (w2.heap.size + 1) x hx W0 (by omega) (ht.over hB0) bN.cell) KpB.t (KpB.b (by omega) (by omega)) (Below.refl _ _) (fun _ => rfl)
    (fun pre W => (∃ v, Boxed W w2.heap.size 23 v ∧ W.ownsRow w.heap.size 3 1 v pre.length (intsOf pre) ∧ True) ∧ Boxed W (w2.heap.size + 1) 66 (.int .u64 x) ∧ Below w.heap.size w W)
    (fun _ _ _ => False)
    (OwnFrom.and (Own.from (holdsRow_own w.heap.size w2.heap.size 23 3 1 (fun pre => pre.length) (fun pre => intsOf pre) (fun _ _ => True)) _) (OwnFrom.and (Own.from (boxed_own _ _ _) _) (ownFrom_below (Nat.le_refl _) (by omega))))
    (fun _ _ _ _ _ hs _ _ => hs)
    ⟨⟨_, bP, bR, trivial⟩, bN, hB0⟩
    (fun k => { tmps := #[.agg #[.int .u64 x], .pointer (some ⟨w.heap.size, 0, none⟩), .slice none 0 0, .pointer (some ⟨w2.heap.size, 0, none⟩), .int .i64 (k.val : Int), .agg #[.int .u64 x], .int .i64 m, .slice (some ⟨w1.heap.size, 0, none⟩) 0 m, .agg #[.int .u64 x], .func (.func 54) #[] #[.pointer (some ⟨w2.heap.size + 1, 0, none⟩)], .int .i64 (k.val : Int), undef, undef, undef, undef, undef], defers := [] }) ?assign ?body ?done ?stop
  case assign =>
    intro l k W K hK
    gi_wp2
    exact hK
  case body =>
    rintro l pre k W ⟨⟨v, hv, hrow, _⟩, hbx, hB⟩ hlt
    rw [Hm.out] at hlt
    have hk := k.isLt
    have hc := hv.cell
    have hf := hv.frozen
    have hBs := hB.size
    have hT := hide' (intsOf_snoc pre k)
    have hT2 : Hid ((pre ++ [k]).length = pre.length + 1) := by show _ = _; simp
    generalize pre.length = N at *
    generalize hrw : intsOf pre = R at *
    clear hrw bP bN bR hB0
    obtain ⟨oa, cap, rfl⟩ := owns_shape hrow
    gi_wp2_with (gi_at_builtin; refine wpListIn_append_own _ rfl _ _ 23 rfl w.heap.size 3 i0 (.int .i64 0) 1 8 Tryd.underlying23 hi hz0 hz1 hz2 rfl (by decide) (.slice oa N cap) N R rfl (hrow.alloc _) ⟨W.heap.size, 0, none⟩ 1 1 [.int .i64 (k.val : Int)] rfl rfl (cell_one_new _ _ _) (by simp [Value.oneCell']) (by unfold maxLen; omega) (by omega) (by simp; omega) ?_; intro v1 w3 hown1 hgrow1 hnil; clear hnil; obtain ⟨oa1, cap1, rfl⟩ := owns_shape hown1; obtain ⟨hv1, hv2, hr2, hx2, hk2, hb2⟩ := box_grown (hv.alloc _) (hbx.alloc _) (by decide) (by decide) (by omega) (hrow.alloc _) (by simp; omega) (by omega) hown1 hgrow1; have hc1 := hv1.cell; have hf1 := hv1.frozen)
    have hbW : Below w.heap.size W (W.alloc (.cells #[.int .i64 (k.val : Int)] 3)) := (Below.refl _ W).alloc hB.size _
    exact ⟨((KeepsOthers.alloc W _).trans hk2).from _, ⟨hx2.cell.trans hbx.cell.symm, fun h => h.below h3 (hbW.trans hb2)⟩, ⟨⟨_, hv2, by rw [hT.out, hT2.out]; exact hr2, trivial⟩, hx2, hB.trans (hbW.trans hb2)⟩⟩
  case done =>
    rintro D ys W hD rfl ⟨⟨v, hv, hrow, _⟩, hbx, hB⟩ hK
    have hc := hv.cell
    obtain ⟨oa, cap, rfl⟩ := owns_shape hrow
    generalize hN : (nums x).length = N at *
    generalize hrw : intsOf (nums x) = R at *
    gi_wp2
    refine ⟨by simp, .inl ⟨_, _, rfl, run_takeDeferred hK, ?_⟩⟩
    refine ⟨_, results_tmp rfl _ _ _, ⟨_, rfl, ?_, hB.trans (belowK_b (w := w) (Nat.le_refl _) W D _ _ (by omega) hK rfl rfl)⟩⟩
    have hq := ownsRow_putObj hrow (.deferred none) hK rfl
    rw [hN, hrw]
    exact hq
  case stop =>
    rintro D c pre W _ _ h _
    exact h.elim
theorem places64 (x : Nat) (hx : x < 18446744073709551616) (w : World) (ht : Tab w) :
    Calls Tryd.prog 60 #[.agg #[.int .u64 x]] w fun e W' => ∃ v, e = .returned v ∧ W'.ownsRow w.heap.size 3 1 v (nums x).length (intsOf (nums x)) ∧ Below w.heap.size w W' := callsIn_wide.1 (placesC64 x hx w ht)
end Go.Proofs.YthjgbnehoiafhaaDoor.M
