/- Least's enter: what becomes ready is laid into the heap. -/
import Derived.Test.YtjimiabfgmchiaaDoorAllMem
import Derived.Test.YtjimiabfgmchiaaDoorOReady
import Derived.Test.YtjimiabfgmchiaaDoorJ36
namespace Go.Proofs.YtjimiabfgmchiaaDoor
open Go.RowKit Go.Shelf
attribute [local go_sem] Oper.semAt_some
theorem HpV.re {B q : Nat} {W : World} {m : Nat} {g g' : Nat → Ent} (h : HpV B q W m g) (hs : SameE m g' g) : HpV B q W m g' := by
  obtain ⟨hq, rv, f, h1, h2, h3, h4, h5⟩ := h
  exact ⟨hq, rv, f, h1, h2, h3, hs.trans h4, h5⟩
theorem keepsO_fz {W W' : World} (h : FzT W W') : KeepsOthers W W' := ⟨h.size, fun k o hk ho => by
  rw [h.block k (Array.getElem?_eq_some_iff.1 hk).1 (fun c e f hc => by rw [hk] at hc; cases hc; cases ho)]
  exact hk⟩
theorem boxed_fz {W W' : World} {b : Nat} {t : TypeId} {v : Value} (h : Boxed W b t v) (hf : FzT W W') (h1 : t ≠ 81) (h2 : t ≠ 84) : Boxed W' b t v := by
  unfold Boxed at *
  rw [hf.block b (Array.getElem?_eq_some_iff.1 h).1 (fun c e f hc => by rw [h] at hc; cases hc; exact ⟨h1, h2⟩)]
  exact h
theorem nums_lenV (x : Nat) : (nums x).length ≤ 64 := by
  unfold nums
  refine Nat.le_trans (List.length_filter_le _ _) ?_
  simp
set_option maxRecDepth 100000 in
set_option maxHeartbeats 4000000 in
theorem enterC (B q rb pb : Nat) (w : World) (n : Nat) (oP : Option Addr) (cP : Nat) (p : Nat → Int) (m : Nat) (g : Nat → Ent) (x : Nat) (hx : x < 18446744073709551616) (ht : Tab w) (hB : B ≤ w.heap.size) (hG : 1 ≤ B) (br : Boxed w rb 79 (.pointer (some ⟨q, 0, none⟩))) (bp : Boxed w pb 24 (.slice oP n cP)) (hH : HpV B q w m g) (hm : m + 64 ≤ 900) (hpr : ∀ k ∈ nums x, k.val < n ∧ ∃ gP o, oP = some ⟨gP, o, none⟩ ∧ w.cell? ⟨gP, o + k.val, none⟩ = some (.int .i64 (p k.val)) ∧ gP < B) :
    CallsIn Fence.wide 9 Tryd.prog 33 #[.agg #[.int .u64 x], .pointer (some ⟨rb, 0, none⟩), .pointer (some ⟨pb, 0, none⟩)] w fun e w' => e = .returned (.tuple #[]) ∧ HpV B q w' (m + (nums x).length) (ext g m p (nums x)) ∧ FzT w w' ∧ Below B w w' := by
  have h3 := ht.2
  have hmx : Tryd.prog.follows Departure.mixedOrders = true := by kernel_rfl
  have hpr' := hide' hpr
  have hnl := hide' (nums_lenV x)
  clear hpr
  refine callsIn_of_wp_marks Tryd.func33 rfl trivial ?_ rfl
  refine wpIn_wide.2 ?_
  simp only [Tryd.ntmps33, List.size_toArray, List.length_cons, List.length_nil, Nat.reduceAdd, Nat.reduceSub, Array.replicate_succ, Array.replicate_zero, List.push_toArray, List.append_toArray, List.nil_append, List.cons_append]
  go_wp2_with (first | (go_at_call 24; refine (allSeq x _).mono ?_; rintro e w1 ⟨bb, rfl, hbox, hbb, hb1⟩))
  have hB0 : Below w.heap.size w (w.alloc (.cells #[.int .u64 x] 65)) := (Below.refl _ w).alloc (Nat.le_refl _) _
  have hB1 : Below w.heap.size w w1 := hB0.trans (hb1.mono hB0.size)
  have br1 := bxb br hB1 br.lt
  have bp1 := bxb bp hB1 bp.lt
  have hH1 := hH.below hB1
  have z1 := hbox.lt
  have hz1 := hB1.size
  refine (wpIn_wide (n := 9)).1 ?_
  refine wpIn_rangeFunc_ownG rfl (by decide) (gf := 50) (lb := #[.pointer (some ⟨bb, 0, none⟩)]) rfl trivial (enters_of Tryd.func50 (by kernel_rfl) rfl)
    (all_mem 8 bb x hx w1 z1 (ht.over hB1) hbox.cell) KpB.t (KpB.b z1 (by omega)) (Below.refl _ _) (fun _ => rfl)
    (fun pre W => Boxed W rb 79 (.pointer (some ⟨q, 0, none⟩)) ∧ Boxed W pb 24 (.slice oP n cP) ∧ Boxed W bb 65 (.int .u64 x) ∧ HpV B q W (m + (plain pre).length) (ext g m p (plain pre)) ∧ FzT w W ∧ Below B w W)
    (fun _ _ _ => False)
    (OwnFrom.and (Own.from (boxed_own _ _ _) _) (OwnFrom.and (Own.from (boxed_own _ _ _) _) (OwnFrom.and (Own.from (boxed_own _ _ _) _) (OwnFrom.and (hpv_own B q _ (fun pre => m + (plain pre).length) (fun pre => ext g m p (plain pre))) (OwnFrom.and (fzt_own w _ hz1) (ownFrom_below hB (by omega)))))))
    (fun _ _ _ _ _ hs _ _ => hs)
    ⟨br1, bp1, hbox, (hH1.re (ext_nil g m p) : HpV B q w1 m (ext g m p [])), FzT.below hB1, hB1.mono hB⟩
    (fun j => { tmps := #[.agg #[.int .u64 x], .pointer (some ⟨rb, 0, none⟩), .pointer (some ⟨pb, 0, none⟩), .pointer (some ⟨w.heap.size, 0, none⟩), .int .i64 (j.val.val : Int), .agg #[.int .u64 x], .func (.func 50) #[] #[.pointer (some ⟨bb, 0, none⟩)], .int .i64 (j.val.val : Int), undef, undef, undef, undef, undef, undef, undef, undef, undef, undef], defers := [] }) ?assign ?body ?done ?stop
  case assign =>
    intro l j W K hK
    gi_wp2
    exact hK
  case body =>
    rintro l pre k W ⟨b0, b1, b2, b3, b4, b5⟩ hlt
    obtain ⟨hkn, gP, oo, rfl, hcp, hgB⟩ := hpr'.out k.val k.property
    have c0 := b0.cell
    have c1 := b1.cell
    have c2 := (b5.cell (p := ⟨gP, oo + k.val.val, none⟩) hgB).trans hcp
    have hpl : (plain pre).length < 64 := by
      have h1 := hnl.out
      simp only [plain, List.length_map] at hlt ⊢
      omega
    have hWB : B ≤ W.heap.size := Nat.le_trans hB b4.size
    have KP := hide' (hpvPush (b3.below (Below.refl _ W).drew) (by omega) hWB (entP p k.val))
    have hsn : Hid (plain (pre ++ [k]) = plain pre ++ [k.val]) := plain_snoc pre k
    have hes := hide' (ext_snoc g m p (plain pre) k.val)
    have z4 := b2.lt
    simp only [entP] at KP hes
    generalize hpk : p k.val.val = pk at *
    generalize hkk : k.val.val = kk at *
    clear hpr' hlt
    gi_wp2
    refine region_round (fun V => V.cell? ⟨rb, 0, none⟩ = some (.pointer (some ⟨q, 0, none⟩)) ∧ V.cell? ⟨pb, 0, none⟩ = some (.slice (some ⟨gP, oo, none⟩) n cP) ∧ V.cell? ⟨gP, oo + kk, none⟩ = some (.int .i64 pk)) hmx (noDefer_of (by kernel_rfl)) ?_ (fun hHeld => ?_)
    · exact ⟨c0, c1, c2⟩
    refine wpAnyH_take (i := 0) (oi := { dst := some 8, op := Op.load 79 (Operand.tmp 1), type := 79, pos := "rows.go:45", after := #[], guard := none }) (v := ?_) rfl (by kernel_rfl) (by kernel_rfl) (by kernel_rfl) (fun _ _ _ h => h) (Or.inl ⟨by rfl, ?_⟩) (by assumption) ?_
    rotate_left
    · intro w hSw; (try dsimp only at hSw); go_simp <;> with_reducible rfl
    simp only [Act.put, List.setIfInBounds_toArray, List.set_cons_zero, List.set_cons_succ]
    refine wpAnyH_take (i := 1) (oi := { dst := some 9, op := Op.makeInterface 79 (Operand.tmp 8), type := 93, pos := "rows.go:45", after := #[{ on := 0, ground := Ground.data }], guard := none }) (v := ?_) rfl (by kernel_rfl) (by kernel_rfl) (by kernel_rfl) (fun _ _ _ h => h) (Or.inl ⟨by rfl, ?_⟩) (by assumption) ?_
    rotate_left
    · intro w hSw; (try dsimp only at hSw); go_simp <;> with_reducible rfl
    simp only [Act.put, List.setIfInBounds_toArray, List.set_cons_zero, List.set_cons_succ]
    refine wpAnyH_take (i := 2) (oi := { dst := some 10, op := Op.load 24 (Operand.tmp 2), type := 24, pos := "rows.go:45", after := #[], guard := none }) (v := ?_) rfl (by kernel_rfl) (by kernel_rfl) (by kernel_rfl) (fun _ _ _ h => h) (Or.inl ⟨by rfl, ?_⟩) (by assumption) ?_
    rotate_left
    · intro w hSw; (try dsimp only at hSw); go_simp <;> with_reducible rfl
    simp only [Act.put, List.setIfInBounds_toArray, List.set_cons_zero, List.set_cons_succ]
    refine wpAnyH_take (i := 3) (oi := { dst := some 11, op := Op.move (Operand.tmp 4), type := 3, pos := "rows.go:45", after := #[], guard := none }) (v := ?_) rfl (by kernel_rfl) (by kernel_rfl) (by kernel_rfl) (fun _ _ _ h => h) (Or.inl ⟨by rfl, ?_⟩) (by assumption) ?_
    rotate_left
    · intro w hSw; (try dsimp only at hSw); go_simp <;> with_reducible rfl
    simp only [Act.put, List.setIfInBounds_toArray, List.set_cons_zero, List.set_cons_succ]
    refine wpAnyH_take (i := 4) (oi := { dst := some 12, op := Op.indexAddr 24 (Operand.tmp 10) (Operand.tmp 11), type := 0, pos := "rows.go:45", after := #[{ on := 2, ground := Ground.data }, { on := 3, ground := Ground.data }], guard := none }) (v := ?_) rfl (by kernel_rfl) (by kernel_rfl) (by kernel_rfl) (fun _ _ _ h => h) (Or.inl ⟨by rfl, ?_⟩) (by assumption) ?_
    rotate_left
    · intro w hSw; (try dsimp only at hSw); go_simp <;> with_reducible rfl
    simp only [Act.put, List.setIfInBounds_toArray, List.set_cons_zero, List.set_cons_succ]
    refine wpAnyH_take (i := 5) (oi := { dst := some 13, op := Op.load 3 (Operand.tmp 12), type := 3, pos := "rows.go:45", after := #[{ on := 4, ground := Ground.data }], guard := none }) (v := ?_) rfl (by kernel_rfl) (by kernel_rfl) (by kernel_rfl) (fun _ _ _ h => h) (Or.inl ⟨by rfl, ?_⟩) (by assumption) ?_
    rotate_left
    · intro w hSw; (try dsimp only at hSw); go_simp <;> with_reducible rfl
    simp only [Act.put, List.setIfInBounds_toArray, List.set_cons_zero, List.set_cons_succ]
    refine wpAnyH_take (i := 6) (oi := { dst := some 14, op := Op.move (Operand.tmp 4), type := 3, pos := "rows.go:45", after := #[], guard := none }) (v := ?_) rfl (by kernel_rfl) (by kernel_rfl) (by kernel_rfl) (fun _ _ _ h => h) (Or.inl ⟨by rfl, ?_⟩) (by assumption) ?_
    rotate_left
    · intro w hSw; (try dsimp only at hSw); go_simp <;> with_reducible rfl
    simp only [Act.put, List.setIfInBounds_toArray, List.set_cons_zero, List.set_cons_succ]
    refine wpAnyH_take (i := 7) (oi := { dst := some 15, op := Op.build 84 #[(0, Operand.tmp 13), (1, Operand.tmp 14)], type := 84, pos := "rows.go:45", after := #[{ on := 5, ground := Ground.data }, { on := 6, ground := Ground.data }], guard := none }) (v := ?_) rfl (by kernel_rfl) (by kernel_rfl) (by kernel_rfl) (fun _ _ _ h => h) (Or.inl ⟨by rfl, ?_⟩) (by assumption) ?_
    rotate_left
    · intro w hSw; (try dsimp only at hSw); go_simp <;> with_reducible rfl
    simp only [Act.put, List.setIfInBounds_toArray, List.set_cons_zero, List.set_cons_succ]
    refine wpAnyH_take (i := 8) (oi := { dst := some 16, op := Op.makeInterface 84 (Operand.tmp 15), type := 20, pos := "rows.go:45", after := #[{ on := 7, ground := Ground.data }], guard := none }) (v := ?_) rfl (by kernel_rfl) (by kernel_rfl) (by kernel_rfl) (fun _ _ _ h => h) (Or.inl ⟨by rfl, ?_⟩) (by assumption) ?_
    rotate_left
    · intro w hSw; (try dsimp only at hSw); go_simp <;> with_reducible rfl
    simp only [Act.put, List.setIfInBounds_toArray, List.set_cons_zero, List.set_cons_succ]
    refine wpAnyH_ready (rs := [9]) (by kernel_rfl) (by simp) ?_
    refine AllReadyH.cons (o := { dst := some 17, op := Op.call { callee := Callee.value (Operand.func 34), args := #[Operand.tmp 9, Operand.tmp 16], argTypes := #[93, 20] }, type := 0, pos := "rows.go:45", after := #[{ on := 1, ground := Ground.data }, { on := 8, ground := Ground.data }], guard := none }) rfl (fun K hK => ?_) AllReadyH.nil
    go_simp
    refine KP.out.mono ?_; rintro e w5 ⟨rfl, hH5, hF5, hB5⟩; (try dsimp only); have hFW : FzT W w5 := (FzT.below (Below.refl _ W).drew).trans hF5.out; have hBW : Below B W w5 := ((Below.refl _ W).drew.mono hWB).trans hB5.out; have q0 := boxed_fz b0 hFW (by decide) (by decide); have q1 := boxed_fz b1 hFW (by decide) (by decide); have q2 := boxed_fz b2 hFW (by decide) (by decide)
    refine hK.out _ _ ?_ (fun hHeld => ?_)
    · exact ⟨q0.cell, q1.cell, (hBW.cell (p := ⟨gP, oo + kk, none⟩) hgB).trans c2⟩
    clear hK K
    try simp only [Act.put, List.setIfInBounds_toArray, List.set_cons_zero, List.set_cons_succ]
    refine wpAnyH_done (by kernel_rfl) ?_ _
    unfold onlyNormal
    gi_wp2
    exact ⟨(keepsO_fz hFW).from _, ⟨q2.cell.trans b2.cell.symm, fun h => h.below hG hBW⟩, q0, q1, q2, by rw [hsn.out, List.length_append]; exact hH5.out.re hes.out, b4.trans hFW, b5.trans hBW⟩
  case done =>
    rintro D ys W hD hys ⟨b0, b1, b2, b3, b4, b5⟩ hK
    rw [hys] at b3
    have hDW := (Array.getElem?_eq_some_iff.1 hK).1
    have hQ : Below B W (W.putObj D (.deferred none)) := belowK_b (w := w) hB W D _ _ (by omega) hK rfl rfl
    have hX : HpV B q (W.putObj D (.deferred none)) (m + (nums x).length) (ext g m p (nums x)) ∧ FzT w (W.putObj D (.deferred none)) ∧ Below B w (W.putObj D (.deferred none)) := by
      refine ⟨hpv_own B q D (fun _ : Unit => m + (nums x).length) (fun _ => ext g m p (nums x)) () W _ (some D) b3 (grownBy_putObj' W D _) (fun r e => by cases e; exact ⟨Nat.le_refl _, _, hK, rfl⟩), ?_, b5.trans hQ⟩
      exact fzt_own (β := Unit) w D (by omega) () W _ (some D) b4 (grownBy_putObj' W D _) (fun r e => by cases e; exact ⟨Nat.le_refl _, _, hK, rfl⟩)
    have hX' := hide' hX
    gi_wp2
    refine ⟨by simp, .inl ⟨_, _, rfl, run_takeDeferred hK, ?_⟩⟩
    exact ⟨_, results_none rfl _ _ _, rfl, hX'.out⟩
  case stop =>
    rintro D c pre W _ _ h _
    exact h.elim
end Go.Proofs.YtjimiabfgmchiaaDoor
