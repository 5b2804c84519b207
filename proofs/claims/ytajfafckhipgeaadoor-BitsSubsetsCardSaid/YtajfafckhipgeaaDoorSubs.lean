/- Subsets' iterator, walked: it ranges over the subsets of what is behind the lowest number, and tells each one without it and with it. -/
import Derived.Test.YtajfafckhipgeaaDoorSubsA
import Derived.Test.YtajfafckhipgeaaDoorAllLaw
namespace Go.Proofs.YtajfafckhipgeaaDoor
open Go.RowKit Go.Shelf
attribute [local go_sem] Oper.semAt_some
set_option maxRecDepth 100000 in
set_option maxHeartbeats 1000000 in
theorem subs0_64 (n l Bn : Nat) (J Jx : List W64 → World → Prop) (W : World)
    (hY : ∀ pre t V, J pre V → pre.length < 1 → YieldAt Fence.wide (n - 1) Tryd.prog l (encW t) V fun e V' =>
      (e = .returned (.bool true) ∧ J (pre ++ [t]) V' ∧ KpB Bn V V' ∧ Kept W.heap.size V V') ∨ (e = .returned (.bool false) ∧ Jx (pre ++ [t]) V' ∧ Kept W.heap.size V V'))
    (hBn : Bn < W.heap.size) (hJ : OwnFrom W.heap.size J) (hc : W.cell? ⟨Bn, 0, none⟩ = some (.int .u64 0)) (h0 : J [] W) :
    CallsIn Fence.wide n Tryd.prog 50 #[.func (.yield l) #[] #[], .pointer (some ⟨Bn, 0, none⟩)] W fun e W' => (∃ v, e = .returned v) ∧
      ((∃ ys, ys = subsL [] ∧ J ys W') ∨ (∃ pre, pre <+: subsL [] ∧ Jx pre W')) := by
  have hmx : Tryd.prog.follows Departure.mixedOrders = true := by kernel_rfl
  refine callsIn_of_wp_marks Tryd.func50 rfl trivial ?_ rfl
  simp only [Tryd.ntmps50, List.size_toArray, List.length_cons, List.length_nil, Nat.reduceAdd, Nat.reduceSub, Array.replicate_succ, Array.replicate_zero, List.push_toArray, List.append_toArray, List.nil_append, List.cons_append]
  have h1 : J [] (W.alloc (.cells #[.func (.yield l) #[] #[]] 31)) := hJ.alloc _ h0
  have hY0 : YieldAt Fence.wide (n - 1) Tryd.prog l #[.agg #[.int .u64 0]] (W.alloc (.cells #[.func (.yield l) #[] #[]] 31)) fun e V' =>
      ∃ b, e = .returned (.bool b) ∧ ((∃ ys, ys = subsL [] ∧ J ys V') ∨ (∃ pre, pre <+: subsL [] ∧ Jx pre V')) := by
    refine YieldAt.mono (hY [] ⟨0, by decide⟩ _ h1 (by decide)) ?_
    rintro e V' (⟨rfl, h2, _⟩ | ⟨rfl, h2, _⟩)
    · exact ⟨true, rfl, .inl ⟨_, rfl, h2⟩⟩
    · exact ⟨false, rfl, .inr ⟨_, List.prefix_refl _, h2⟩⟩
  obtain ⟨fn, tmps, assign, body, hy, hR⟩ := hY0
  clear hY hJ h0 h1
  gi_wp2_with (refine ⟨fun h => absurd h (by decide), hR.mono ?_⟩; rintro e V1 ⟨b, rfl, h2⟩)
  exact ⟨_, results_none rfl _ _ _, ⟨_, rfl⟩, h2⟩
set_option maxRecDepth 100000 in
set_option maxHeartbeats 40000000 in
theorem subs1_64 (n l Bn : Nat) (x : Nat) (j : Fin 64) (r : List (Fin 64)) (hx : x < 18446744073709551616) (hn : nums x = j :: r) (J Jx : List W64 → World → Prop) (W : World)
    (hS : ∀ (x' Bn' : Nat) (w' : World), nums x' = r → x' < 18446744073709551616 → Bn' < w'.heap.size → Tab w' → w'.cell? ⟨Bn', 0, none⟩ = some (.int .u64 x') →
      SeqN (n - 1) Tryd.prog 50 #[.pointer (some ⟨Bn', 0, none⟩)] encW (KpB Bn') (fun ys => ys = subsL r) (fun pre => pre <+: subsL r) (subsL r).length w')
    (hY : ∀ pre t V, J pre V → pre.length < (subsL (j :: r)).length → YieldAt Fence.wide (n - 1) Tryd.prog l (encW t) V fun e V' =>
      (e = .returned (.bool true) ∧ J (pre ++ [t]) V' ∧ KpB Bn V V' ∧ Kept W.heap.size V V') ∨ (e = .returned (.bool false) ∧ Jx (pre ++ [t]) V' ∧ Kept W.heap.size V V'))
    (hBn : Bn < W.heap.size) (hJ : OwnFrom W.heap.size J) (hJx : OwnFrom W.heap.size Jx) (ht : Tab W) (hc : W.cell? ⟨Bn, 0, none⟩ = some (.int .u64 x)) (h0 : J [] W) :
    CallsIn Fence.wide n Tryd.prog 50 #[.func (.yield l) #[] #[], .pointer (some ⟨Bn, 0, none⟩)] W fun e W' => (∃ v, e = .returned v) ∧
      ((∃ ys, ys = subsL (j :: r) ∧ J ys W') ∨ (∃ pre, pre <+: subsL (j :: r) ∧ Jx pre W')) := by
  have hmx : Tryd.prog.follows Departure.mixedOrders = true := by kernel_rfl
  have hx0 : ((x : Int) == 0) = false := by
    rw [beq_eq_false_iff_ne]; intro e
    obtain rfl : x = 0 := by omega
    rw [nums_zero] at hn; cases hn
  have hlow : ∀ w, Tab w → Calls Tryd.prog 24 #[.agg #[.int .u64 x]] w fun e w' => e = .returned (.int .i64 (j.val : Int)) ∧ Below w.heap.size w w' := fun w ht => by
    have := low64 x hx w ht; rw [hn] at this; exact this
  have honly : ∀ w, Calls Tryd.prog 33 #[.agg #[.int .u64 x], .int .i64 (j.val : Int)] w fun e w' => e = .returned (.agg #[.int .u64 ((2 ^ j.val : Nat) : Int)]) ∧ Below w.heap.size w w' := fun w =>
    only64 x j.val j.isLt _ (shl64 j.val j.isLt) w
  have hp := (bitW j).2
  have hmin : ∀ w, Calls Tryd.prog 12 #[.agg #[.int .u64 x], .agg #[.int .u64 ((2 ^ j.val : Nat) : Int)]] w fun e w' => e = .returned (.agg #[.int .u64 ((x &&& (18446744073709551615 - 2 ^ j.val) : Nat) : Int)]) ∧ Below w.heap.size w w' := fun w => minus64 x _ hx hp w
  have hrest := nums_rest hn
  have hx' : x &&& (18446744073709551615 - 2 ^ j.val) < 18446744073709551616 := Nat.lt_of_le_of_lt Nat.and_le_left hx
  generalize x &&& (18446744073709551615 - 2 ^ j.val) = x' at hmin hrest hx'
  have hpv : (bitW j).1 = 2 ^ j.val := rfl
  generalize (2 ^ j.val : Nat) = p at honly hmin hpv
  have h3 := ht.2
  refine callsIn_of_wp_marks Tryd.func50 rfl trivial ?_ rfl
  simp only [Tryd.ntmps50, List.size_toArray, List.length_cons, List.length_nil, Nat.reduceAdd, Nat.reduceSub, Array.replicate_succ, Array.replicate_zero, List.push_toArray, List.append_toArray, List.nil_append, List.cons_append]
  have bY := Boxed.new W 31 (.func (.yield l) #[] #[])
  gi_wp2
  rename_i K hK
  have hYs : (W.alloc (.cells #[.func (.yield l) #[] #[]] 31)).heap.size = W.heap.size + 1 := by simp
  have bB : Below W.heap.size W (W.alloc (.cells #[.func (.yield l) #[] #[]] 31)) := (Below.refl _ W).alloc (Nat.le_refl _) _
  generalize W.alloc (.cells #[.func (.yield l) #[] #[]] 31) = Y at *
  have tY := ht.over bB
  have cY : Y.cell? ⟨Bn, 0, none⟩ = some (.int .u64 x) := (bB.cell (p := ⟨Bn, 0, none⟩) hBn).trans hc
  have key : ∀ (bl : Nat) (w2 : World), Y.heap.size ≤ bl → Boxed w2 bl 26 (.int .u64 p) → Below Y.heap.size Y w2 →
      K { tmps := #[.func (.yield l) #[] #[], .pointer (some ⟨Bn, 0, none⟩), .pointer (some ⟨W.heap.size, 0, none⟩), .pointer (some ⟨bl, 0, none⟩), undef, .pointer (some ⟨Bn, 0, none⟩), .int .u64 x, .bool false, undef, undef, undef, .agg #[.int .u64 x], .agg #[.int .u64 x], .int .i64 (j.val : Int), .agg #[.int .u64 p], undef, undef, undef, undef, undef, undef, undef, undef, undef, undef, undef, undef, undef, undef, undef, undef, undef], defers := [] } w2 := by
    intro bl w2 hbl bL hB2
    refine hK _ _ ?_
    have s2 := hB2.size
    have cX2 := (hB2.cell (p := ⟨Bn, 0, none⟩) (by show Bn < _; omega)).trans cY
    have cL2 := bL.cell
    have fS : ∀ W3, Below w2.heap.size w2 W3 → Gs l Bn x W.heap.size bl p W3.heap.size W3 := fun W3 h => ⟨Nat.le_refl _, (h.cell (p := ⟨Bn, 0, none⟩) (by show Bn < _; omega)).trans cX2, (tY.over hB2).over h, (h.block _ (by omega)).trans ((hB2.block _ (by omega)).trans bY), (h.block _ bL.lt).trans bL⟩
    gi_wp2_with (first | (refine ⟨trivial, fun h => absurd h (by decide), ?_⟩; gi_at_call 12; refine (callsIn_wide.2 (hmin _)).mono ?_; rintro e w3 ⟨rfl, hb3⟩) | (refine ⟨trivial, fun h => absurd h (by decide), ?_⟩; gi_at_call 31; refine (callsIn_wide.2 (subsets64 _ _)).mono ?_; rintro e w' ⟨rfl, rfl⟩))
    have hb0 : Below w2.heap.size w2 (w3.alloc (.cells #[.int .u64 x'] 26)) := hb3.alloc hb3.size _
    have bN := Boxed.new w3 26 (.int .u64 x')
    have hs3 : (w3.alloc (.cells #[.int .u64 x'] 26)).heap.size = w3.heap.size + 1 := by simp
    have s3 := hb3.size
    have hG := fS _ hb0
    have hBW : Below W.heap.size W (w3.alloc (.cells #[.int .u64 x'] 26)) := (bB.trans (hB2.mono bB.size)).trans (hb0.mono (by omega))
    have hJ1 : J [] (w3.alloc (.cells #[.int .u64 x'] 26)) := hJ _ _ _ none h0 (grown_none hBW) (fun r e => by cases e)
    clear fS hb3 hb0 hBW
    generalize w3.alloc (.cells #[.int .u64 x'] 26) = W0 at *
    generalize w3.heap.size = bs at *
    have hbl2 := bL.lt
    have hup : ∀ {I : List W64 → World → Prop}, OwnFrom W.heap.size I → OwnFrom W0.heap.size I := fun h s Y Z row hI hg hr => h _ Y Z row hI hg fun r e => ⟨by have := (hr r e).1; omega, (hr r e).2⟩
    have hgo : OwnFrom (β := Unit) W0.heap.size (fun _ V => Gs l Bn x W.heap.size bl p W0.heap.size V) := Gs.own (by omega) (by omega) (by omega) (by omega)
    refine rangeA (gf := 50) (lb := #[.pointer (some ⟨bs, 0, none⟩)]) rfl (enters_of Tryd.func50 (by kernel_rfl) rfl)
      (hS x' bs W0 hrest hx' (by omega) hG.2.2.1 bN.cell) KpB.t (KpB.b (by omega) (by omega)) (fun _ => rfl)
      (fun pre V => J (pre.flatMap (twoW j)) V ∧ Gs l Bn x W.heap.size bl p W0.heap.size V) (fun c pre V => c = .ret ∧ ∃ q, q <+: pre.flatMap (twoW j) ∧ Jx q V)
      (fun s Y Z row h hg hr => ⟨hup hJ _ Y Z row h.1 hg hr, hgo () Y Z row h.2 hg hr⟩) (fun c s Y Z row h hg hr => ⟨h.1, h.2.elim fun q hq => ⟨q, hq.1, hup hJx q Y Z row hq.2 hg hr⟩⟩) ⟨hJ1, hG⟩
      (fun t a' V => ∃ b, W0.heap.size ≤ b ∧ a' = { tmps := #[.func (.yield l) #[] #[], .pointer (some ⟨Bn, 0, none⟩), .pointer (some ⟨W.heap.size, 0, none⟩), .pointer (some ⟨bl, 0, none⟩), .pointer (some ⟨b, 0, none⟩), .pointer (some ⟨Bn, 0, none⟩), .int .u64 x, .bool false, undef, undef, undef, .agg #[.int .u64 x], .agg #[.int .u64 x], .int .i64 (j.val : Int), .agg #[.int .u64 p], .agg #[.int .u64 x], .agg #[.int .u64 p], .agg #[.int .u64 x'], .func (.func 50) #[] #[.pointer (some ⟨bs, 0, none⟩)], .agg #[.int .u64 (t.1 : Int)], undef, undef, undef, undef, undef, undef, undef, undef, undef, undef, undef, undef], defers := [] } ∧ Boxed V b 26 (.int .u64 (t.1 : Int)))
      (fun t a' _ Y Z row h hg hr => h.elim fun b hb => ⟨b, hb.1, hb.2.1, (hg.block b hb.2.2.lt (fun e => by obtain ⟨_, o, ho, hc⟩ := hr b e.symm; rw [show Y.heap[b]? = _ from hb.2.2] at ho; cases ho; cases hc)).trans hb.2.2⟩)
      (fun h k => KpB.of_below k (by omega) (by omega)) ?assign ?body ?done ?stop
    case assign =>
      intro l' t V K' hz hK'
      have e1 : encW t = #[.agg #[.int .u64 (t.1 : Int)]] := rfl
      rw [e1]
      gi_wp2
      exact hK' _ _ ((Below.refl _ V).alloc (Nat.le_refl _) _) ⟨V.heap.size, hz, rfl, Boxed.new V _ _⟩
    case body =>
      rintro l' pre t a' V hz ⟨hJv, hGv⟩ ⟨b, hb, rfl, bT⟩ hlt
      obtain ⟨g1, cX, g3, g4, g5⟩ := id hGv
      have cY1 := g4.cell
      have cL1 := g5.cell
      have cT1 := bT.cell
      have tL := t.2
      have hlen : (pre.flatMap (twoW j)).length + 1 < (subsL (j :: r)).length := by rw [flat_len, show subsL (j :: r) = (subsL r).flatMap (twoW j) from rfl, flat_len]; omega
      have hbT := bT.lt
      have HY1 : Hid (YieldAt (Fence.wide.inRound l') (n - 1 - 1 - 1) Tryd.prog l #[.agg #[.int .u64 (t.1 : Int)]] V.drew fun e V1 =>
          (e = .returned (.bool true) ∧ V1.cell? ⟨W.heap.size, 0, none⟩ = some (.func (.yield l) #[] #[]) ∧ V1.cell? ⟨b, 0, none⟩ = some (.int .u64 (t.1 : Int)) ∧ V1.cell? ⟨bl, 0, none⟩ = some (.int .u64 p) ∧
            Hid (∀ w5, Below V1.heap.size V1 w5 → w5.cell? ⟨W.heap.size, 0, none⟩ = some (.func (.yield l) #[] #[]) ∧ YieldAt (Fence.wide.inRound l') (n - 1 - 1 - 1) Tryd.prog l #[.agg #[.int .u64 ((t.1 ||| p : Nat) : Int)]] w5 fun e V2 =>
              ∃ b2, e = .returned (.bool b2) ∧ Hid (Kept W.heap.size V V2 ∧ ((b2 = true ∧ J ((pre ++ [t]).flatMap (twoW j)) V2 ∧ Gs l Bn x W.heap.size bl p W0.heap.size V2 ∧ KpB bs V V2) ∨ (b2 = false ∧ ∃ q, q <+: (pre ++ [t]).flatMap (twoW j) ∧ Jx q V2))))) ∨
          (e = .returned (.bool false) ∧ Hid (Kept W.heap.size V V1 ∧ ∃ q, q <+: (pre ++ [t]).flatMap (twoW j) ∧ Jx q V1))) := by
        have hbd : Below V.heap.size V V.drew := (Below.refl _ V).drew
        refine yieldAny (YieldAt.mono (hY (pre.flatMap (twoW j)) t V.drew (hJ _ _ _ none hJv (grown_none hbd) (fun r e => by cases e)) (by omega)) ?_) l'
        rintro e V1 (⟨rfl, h1, h2, h4⟩ | ⟨rfl, h1, h4⟩)
        · have hgd : Gs l Bn x W.heap.size bl p W0.heap.size V.drew := hGv.below hbd (by omega) (by omega) (by omega) (by omega)
          have hg1 := hgd.round h2 h4 (Nat.le_refl _) (by omega)
          have hk1 : Kept W.heap.size V V1 := (Kept.below hbd).trans h4
          have kb1 : KpB bs V V1 := (KpB.of_below hbd (by omega) (by omega)).t (h2.of_kept h4 (by omega) (by show bs < V.heap.size; omega))
          have bT1 : Boxed V1 b 26 (.int .u64 (t.1 : Int)) := (hk1.2 b (by omega) hbT).trans bT
          refine .inl ⟨rfl, hg1.2.2.2.1.cell, bT1.cell, hg1.2.2.2.2.cell, fun w5 hb5 => ?_⟩
          have sz1 := hk1.1
          have hg5 : Gs l Bn x W.heap.size bl p W0.heap.size w5 := hg1.below hb5 (by omega) (by omega) (by omega) (by omega)
          have hk5 : Kept W.heap.size V w5 := hk1.trans (Kept.below hb5)
          have kb5 : KpB bs V w5 := kb1.t (KpB.of_below hb5 (by omega) (by omega))
          have hz5 := hY (pre.flatMap (twoW j) ++ [t]) (orW t (bitW j)) w5 (hJ _ _ _ none h1 (grown_none hb5) (fun r e => by cases e)) (by rw [List.length_append]; exact hlen)
          rw [show encW (orW t (bitW j)) = #[.agg #[.int .u64 ((t.1 ||| p : Nat) : Int)]] by rw [← hpv]; rfl] at hz5
          refine ⟨hg5.2.2.2.1.cell, yieldAny (YieldAt.mono hz5 ?_) l'⟩
          rintro e V2 (⟨rfl, i1, i2, i4⟩ | ⟨rfl, i1, i4⟩)
          · exact ⟨true, rfl, hk5.trans i4, .inl ⟨rfl, by rw [flat_snoc]; exact i1, hg5.round i2 i4 (Nat.le_refl _) (by omega), kb5.t (i2.of_kept i4 (by omega) (by have := hb5.size; omega))⟩⟩
          · exact ⟨false, rfl, hk5.trans i4, .inr ⟨rfl, _, by rw [flat_snoc]; exact List.prefix_refl _, i1⟩⟩
        · exact .inr ⟨rfl, (Kept.below hbd).trans h4, _, by rw [flat_snoc]; exact ⟨[orW t (bitW j)], rfl⟩, h1⟩
      obtain ⟨fn1, tmps1, assign1, body1, hy1, hR1⟩ := HY1.out
      have HO : Hid (∀ w, Calls Tryd.prog 11 #[.agg #[.int .u64 (t.1 : Int)], .agg #[.int .u64 (p : Int)]] w fun e w' => e = .returned (.agg #[.int .u64 ((t.1 ||| p : Nat) : Int)]) ∧ Below w.heap.size w w') := fun w => or64 t.1 p tL (hpv ▸ hp) w
      have z1 : W.heap.size ≤ W0.heap.size := by omega
      clear HY1 hS hY hJ hJx hup hgo h0 hJ1 hG bN hB2 bL bY bB tY ht hc hmin hrest hx' hpv hp hlow honly hx hn hK hJv hGv g1 g3 g4 g5 cX bT hs3 s3 s2 hYs hlen hlt cY cX2 cL2
      generalize (t.1 ||| p : Nat) = tp at *
      generalize t.1 = tn at *
      gi_wp2
      rename_i Kb hKb
      have FIN : ∀ (t0 t1 t2 t3 t4 t5 t6 t7 t8 t9 t10 t11 t12 t13 t14 t15 t16 t17 t18 t19 t20 t21 t22 t23 t24 t25 t26 t27 t28 t29 t30 : Value) (b2 : Bool) (V2 : World) (_ : Hid (Kept W.heap.size V V2 ∧ ((b2 = true ∧ J ((pre ++ [t]).flatMap (twoW j)) V2 ∧ Gs l Bn x W.heap.size bl p W0.heap.size V2 ∧ KpB bs V V2) ∨ (b2 = false ∧ ∃ q, q <+: (pre ++ [t]).flatMap (twoW j) ∧ Jx q V2)))),
          Kb { tmps := #[t0, t1, t2, t3, t4, t5, t6, t7, t8, t9, t10, t11, t12, t13, t14, t15, t16, t17, t18, t19, t20, t21, t22, t23, t24, t25, t26, t27, t28, t29, t30, .bool (!b2)], defers := [] } V2 := by
        intro _ _ _ _ _ _ _ _ _ _ _ _ _ _ _ _ _ _ _ _ _ _ _ _ _ _ _ _ _ _ _ b2 V2 h2
        refine hKb _ _ ?_
        obtain ⟨hq, ⟨rfl, h5, h6, h7⟩ | ⟨rfl, h5⟩⟩ := h2.out
        · gi_wp2
          exact ⟨hq.from z1, h7, ⟨h5, h6⟩, hq.mono (by omega)⟩
        · gi_wp2
          exact ⟨hq.from z1, ⟨rfl, h5⟩, hq.mono (by omega)⟩
      have HF := hide' FIN
      clear FIN hKb
      refine wpIn_region_any (by assumption) ?_
      change wpAnyIn _ _ _ _ _ _ _ _ _ (World.drew _)
      refine wpAnyIn_ready (rs := [0, 1]) (by kernel_rfl) (by simp) ?_
      refine AllReadyIn.cons rfl (fun K hK => ?_) ?_
      · go_simp
        refine hK _ _ ?_
        clear hK K
        refine wpAnyIn_ready (rs := [1]) (by kernel_rfl) (by simp) ?_
        refine AllReadyIn.cons rfl (fun K hK => ?_) ?_
        · go_simp
          refine hK _ _ ?_
          clear hK K
          refine wpAnyIn_ready (rs := [2]) (by kernel_rfl) (by simp) ?_
          refine AllReadyIn.cons rfl (fun K hK => ?_) ?_
          · go_simp; refine ⟨fun h => absurd h (by decide), hR1.mono ?_⟩; clear hR1; rintro e V1 (⟨rfl, cY2, cT2, cL2, h1⟩ | ⟨rfl, h2⟩)
            · refine hK _ _ ?_
              clear hK K
              refine wpAnyIn_ready (rs := [3]) (by kernel_rfl) (by simp) ?_
              refine AllReadyIn.cons rfl (fun K hK => ?_) ?_
              · go_simp
                refine hK _ _ ?_
                clear hK K
                refine wpAnyIn_ready (rs := [4]) (by kernel_rfl) (by simp) ?_
                refine AllReadyIn.cons rfl (fun K hK => ?_) ?_
                · go_simp
                  refine hK _ _ ?_
                  clear hK K
                  refine wpAnyIn_ready (rs := [5, 6, 7]) (by kernel_rfl) (by simp) ?_
                  refine AllReadyIn.cons rfl (fun K hK => ?_) ?_
                  · go_simp
                    refine hK _ _ ?_
                    clear hK K
                    refine wpAnyIn_ready (rs := [6, 7]) (by kernel_rfl) (by simp) ?_
                    refine AllReadyIn.cons rfl (fun K hK => ?_) ?_
                    · go_simp
                      refine hK _ _ ?_
                      clear hK K
                      refine wpAnyIn_ready (rs := [7]) (by kernel_rfl) (by simp) ?_
                      refine AllReadyIn.cons rfl (fun K hK => ?_) ?_
                      · go_simp
                        refine hK _ _ ?_
                        clear hK K
                        refine wpAnyIn_ready (rs := [8]) (by kernel_rfl) (by simp) ?_
                        refine AllReadyIn.cons rfl (fun K hK => ?_) ?_
                        · go_simp; refine ⟨trivial, fun h => absurd h (by decide), ?_⟩; gi_at_call 11; refine (CallsIn.inRound l' (callsIn_wide.2 (HO.out _))).mono ?_; rintro e w5 ⟨rfl, hb5⟩; obtain ⟨cY5, fn2, tmps2, assign2, body2, hy2, hR2⟩ := h1.out w5 hb5
                          refine hK _ _ ?_
                          clear hK K
                          refine wpAnyIn_ready (rs := [9]) (by kernel_rfl) (by simp) ?_
                          refine AllReadyIn.cons rfl (fun K hK => ?_) ?_
                          · go_simp; refine ⟨fun h => absurd h (by decide), hR2.mono ?_⟩; clear hR2; rintro e V2 ⟨b2, rfl, h2⟩
                            refine hK _ _ ?_
                            clear hK K
                            refine wpAnyIn_ready (rs := [10]) (by kernel_rfl) (by simp) ?_
                            refine AllReadyIn.cons rfl (fun K hK => ?_) ?_
                            · go_simp
                              refine hK _ _ ?_
                              clear hK K
                              refine wpAnyIn_ready (rs := [11]) (by kernel_rfl) (by simp) ?_
                              refine AllReadyIn.cons rfl (fun K hK => ?_) ?_
                              · go_simp
                                refine hK _ _ ?_
                                clear hK K
                                refine wpAnyIn_done (by kernel_rfl) ?_ _
                                exact HF.out _ _ _ _ _ _ _ _ _ _ _ _ _ _ _ _ _ _ _ _ _ _ _ _ _ _ _ _ _ _ _ _ _ h2
                              exact AllReadyIn.nil
                            exact AllReadyIn.nil
                          exact AllReadyIn.nil
                        exact AllReadyIn.nil
                      exact AllReadyIn.nil
                    refine AllReadyIn.cons rfl (fun K hK => ?_) ?_
                    · go_simp
                      refine hK _ _ ?_
                      clear hK K
                      refine wpAnyIn_ready (rs := [6]) (by kernel_rfl) (by simp) ?_
                      refine AllReadyIn.cons rfl (fun K hK => ?_) ?_
                      · go_simp
                        refine hK _ _ ?_
                        clear hK K
                        refine wpAnyIn_ready (rs := [8]) (by kernel_rfl) (by simp) ?_
                        refine AllReadyIn.cons rfl (fun K hK => ?_) ?_
                        · go_simp; refine ⟨trivial, fun h => absurd h (by decide), ?_⟩; gi_at_call 11; refine (CallsIn.inRound l' (callsIn_wide.2 (HO.out _))).mono ?_; rintro e w5 ⟨rfl, hb5⟩; obtain ⟨cY5, fn2, tmps2, assign2, body2, hy2, hR2⟩ := h1.out w5 hb5
                          refine hK _ _ ?_
                          clear hK K
                          refine wpAnyIn_ready (rs := [9]) (by kernel_rfl) (by simp) ?_
                          refine AllReadyIn.cons rfl (fun K hK => ?_) ?_
                          · go_simp; refine ⟨fun h => absurd h (by decide), hR2.mono ?_⟩; clear hR2; rintro e V2 ⟨b2, rfl, h2⟩
                            refine hK _ _ ?_
                            clear hK K
                            refine wpAnyIn_ready (rs := [10]) (by kernel_rfl) (by simp) ?_
                            refine AllReadyIn.cons rfl (fun K hK => ?_) ?_
                            · go_simp
                              refine hK _ _ ?_
                              clear hK K
                              refine wpAnyIn_ready (rs := [11]) (by kernel_rfl) (by simp) ?_
                              refine AllReadyIn.cons rfl (fun K hK => ?_) ?_
                              · go_simp
                                refine hK _ _ ?_
                                clear hK K
                                refine wpAnyIn_done (by kernel_rfl) ?_ _
                                exact HF.out _ _ _ _ _ _ _ _ _ _ _ _ _ _ _ _ _ _ _ _ _ _ _ _ _ _ _ _ _ _ _ _ _ h2
                              exact AllReadyIn.nil
                            exact AllReadyIn.nil
                          exact AllReadyIn.nil
                        exact AllReadyIn.nil
                      exact AllReadyIn.nil
                    exact AllReadyIn.nil
                  refine AllReadyIn.cons rfl (fun K hK => ?_) ?_
                  · go_simp
                    refine hK _ _ ?_
                    clear hK K
                    refine wpAnyIn_ready (rs := [5, 7]) (by kernel_rfl) (by simp) ?_
                    refine AllReadyIn.cons rfl (fun K hK => ?_) ?_
                    · go_simp
                      refine hK _ _ ?_
                      clear hK K
                      refine wpAnyIn_ready (rs := [7]) (by kernel_rfl) (by simp) ?_
                      refine AllReadyIn.cons rfl (fun K hK => ?_) ?_
                      · go_simp
                        refine hK _ _ ?_
                        clear hK K
                        refine wpAnyIn_ready (rs := [8]) (by kernel_rfl) (by simp) ?_
                        refine AllReadyIn.cons rfl (fun K hK => ?_) ?_
                        · go_simp; refine ⟨trivial, fun h => absurd h (by decide), ?_⟩; gi_at_call 11; refine (CallsIn.inRound l' (callsIn_wide.2 (HO.out _))).mono ?_; rintro e w5 ⟨rfl, hb5⟩; obtain ⟨cY5, fn2, tmps2, assign2, body2, hy2, hR2⟩ := h1.out w5 hb5
                          refine hK _ _ ?_
                          clear hK K
                          refine wpAnyIn_ready (rs := [9]) (by kernel_rfl) (by simp) ?_
                          refine AllReadyIn.cons rfl (fun K hK => ?_) ?_
                          · go_simp; refine ⟨fun h => absurd h (by decide), hR2.mono ?_⟩; clear hR2; rintro e V2 ⟨b2, rfl, h2⟩
                            refine hK _ _ ?_
                            clear hK K
                            refine wpAnyIn_ready (rs := [10]) (by kernel_rfl) (by simp) ?_
                            refine AllReadyIn.cons rfl (fun K hK => ?_) ?_
                            · go_simp
                              refine hK _ _ ?_
                              clear hK K
                              refine wpAnyIn_ready (rs := [11]) (by kernel_rfl) (by simp) ?_
                              refine AllReadyIn.cons rfl (fun K hK => ?_) ?_
                              · go_simp
                                refine hK _ _ ?_
                                clear hK K
                                refine wpAnyIn_done (by kernel_rfl) ?_ _
                                exact HF.out _ _ _ _ _ _ _ _ _ _ _ _ _ _ _ _ _ _ _ _ _ _ _ _ _ _ _ _ _ _ _ _ _ h2
                              exact AllReadyIn.nil
                            exact AllReadyIn.nil
                          exact AllReadyIn.nil
                        exact AllReadyIn.nil
                      exact AllReadyIn.nil
                    refine AllReadyIn.cons rfl (fun K hK => ?_) ?_
                    · go_simp
                      refine hK _ _ ?_
                      clear hK K
                      refine wpAnyIn_ready (rs := [5, 8]) (by kernel_rfl) (by simp) ?_
                      refine AllReadyIn.cons rfl (fun K hK => ?_) ?_
                      · go_simp
                        refine hK _ _ ?_
                        clear hK K
                        refine wpAnyIn_ready (rs := [8]) (by kernel_rfl) (by simp) ?_
                        refine AllReadyIn.cons rfl (fun K hK => ?_) ?_
                        · go_simp; refine ⟨trivial, fun h => absurd h (by decide), ?_⟩; gi_at_call 11; refine (CallsIn.inRound l' (callsIn_wide.2 (HO.out _))).mono ?_; rintro e w5 ⟨rfl, hb5⟩; obtain ⟨cY5, fn2, tmps2, assign2, body2, hy2, hR2⟩ := h1.out w5 hb5
                          refine hK _ _ ?_
                          clear hK K
                          refine wpAnyIn_ready (rs := [9]) (by kernel_rfl) (by simp) ?_
                          refine AllReadyIn.cons rfl (fun K hK => ?_) ?_
                          · go_simp; refine ⟨fun h => absurd h (by decide), hR2.mono ?_⟩; clear hR2; rintro e V2 ⟨b2, rfl, h2⟩
                            refine hK _ _ ?_
                            clear hK K
                            refine wpAnyIn_ready (rs := [10]) (by kernel_rfl) (by simp) ?_
                            refine AllReadyIn.cons rfl (fun K hK => ?_) ?_
                            · go_simp
                              refine hK _ _ ?_
                              clear hK K
                              refine wpAnyIn_ready (rs := [11]) (by kernel_rfl) (by simp) ?_
                              refine AllReadyIn.cons rfl (fun K hK => ?_) ?_
                              · go_simp
                                refine hK _ _ ?_
                                clear hK K
                                refine wpAnyIn_done (by kernel_rfl) ?_ _
                                exact HF.out _ _ _ _ _ _ _ _ _ _ _ _ _ _ _ _ _ _ _ _ _ _ _ _ _ _ _ _ _ _ _ _ _ h2
                              exact AllReadyIn.nil
                            exact AllReadyIn.nil
                          exact AllReadyIn.nil
                        exact AllReadyIn.nil
                      refine AllReadyIn.cons rfl (fun K hK => ?_) ?_
                      · go_simp; refine ⟨trivial, fun h => absurd h (by decide), ?_⟩; gi_at_call 11; refine (CallsIn.inRound l' (callsIn_wide.2 (HO.out _))).mono ?_; rintro e w5 ⟨rfl, hb5⟩; obtain ⟨cY5, fn2, tmps2, assign2, body2, hy2, hR2⟩ := h1.out w5 hb5
                        refine hK _ _ ?_
                        clear hK K
                        refine wpAnyIn_ready (rs := [5]) (by kernel_rfl) (by simp) ?_
                        refine AllReadyIn.cons rfl (fun K hK => ?_) ?_
                        · go_simp
                          refine hK _ _ ?_
                          clear hK K
                          refine wpAnyIn_ready (rs := [9]) (by kernel_rfl) (by simp) ?_
                          refine AllReadyIn.cons rfl (fun K hK => ?_) ?_
                          · go_simp; refine ⟨fun h => absurd h (by decide), hR2.mono ?_⟩; clear hR2; rintro e V2 ⟨b2, rfl, h2⟩
                            refine hK _ _ ?_
                            clear hK K
                            refine wpAnyIn_ready (rs := [10]) (by kernel_rfl) (by simp) ?_
                            refine AllReadyIn.cons rfl (fun K hK => ?_) ?_
                            · go_simp
                              refine hK _ _ ?_
                              clear hK K
                              refine wpAnyIn_ready (rs := [11]) (by kernel_rfl) (by simp) ?_
                              refine AllReadyIn.cons rfl (fun K hK => ?_) ?_
                              · go_simp
                                refine hK _ _ ?_
                                clear hK K
                                refine wpAnyIn_done (by kernel_rfl) ?_ _
                                exact HF.out _ _ _ _ _ _ _ _ _ _ _ _ _ _ _ _ _ _ _ _ _ _ _ _ _ _ _ _ _ _ _ _ _ h2
                              exact AllReadyIn.nil
                            exact AllReadyIn.nil
                          exact AllReadyIn.nil
                        exact AllReadyIn.nil
                      exact AllReadyIn.nil
                    exact AllReadyIn.nil
                  refine AllReadyIn.cons rfl (fun K hK => ?_) ?_
                  · go_simp
                    refine hK _ _ ?_
                    clear hK K
                    refine wpAnyIn_ready (rs := [5, 6]) (by kernel_rfl) (by simp) ?_
                    refine AllReadyIn.cons rfl (fun K hK => ?_) ?_
                    · go_simp
                      refine hK _ _ ?_
                      clear hK K
                      refine wpAnyIn_ready (rs := [6]) (by kernel_rfl) (by simp) ?_
                      refine AllReadyIn.cons rfl (fun K hK => ?_) ?_
                      · go_simp
                        refine hK _ _ ?_
                        clear hK K
                        refine wpAnyIn_ready (rs := [8]) (by kernel_rfl) (by simp) ?_
                        refine AllReadyIn.cons rfl (fun K hK => ?_) ?_
                        · go_simp; refine ⟨trivial, fun h => absurd h (by decide), ?_⟩; gi_at_call 11; refine (CallsIn.inRound l' (callsIn_wide.2 (HO.out _))).mono ?_; rintro e w5 ⟨rfl, hb5⟩; obtain ⟨cY5, fn2, tmps2, assign2, body2, hy2, hR2⟩ := h1.out w5 hb5
                          refine hK _ _ ?_
                          clear hK K
                          refine wpAnyIn_ready (rs := [9]) (by kernel_rfl) (by simp) ?_
                          refine AllReadyIn.cons rfl (fun K hK => ?_) ?_
                          · go_simp; refine ⟨fun h => absurd h (by decide), hR2.mono ?_⟩; clear hR2; rintro e V2 ⟨b2, rfl, h2⟩
                            refine hK _ _ ?_
                            clear hK K
                            refine wpAnyIn_ready (rs := [10]) (by kernel_rfl) (by simp) ?_
                            refine AllReadyIn.cons rfl (fun K hK => ?_) ?_
                            · go_simp
                              refine hK _ _ ?_
                              clear hK K
                              refine wpAnyIn_ready (rs := [11]) (by kernel_rfl) (by simp) ?_
                              refine AllReadyIn.cons rfl (fun K hK => ?_) ?_
                              · go_simp
                                refine hK _ _ ?_
                                clear hK K
                                refine wpAnyIn_done (by kernel_rfl) ?_ _
                                exact HF.out _ _ _ _ _ _ _ _ _ _ _ _ _ _ _ _ _ _ _ _ _ _ _ _ _ _ _ _ _ _ _ _ _ h2
                              exact AllReadyIn.nil
                            exact AllReadyIn.nil
                          exact AllReadyIn.nil
                        exact AllReadyIn.nil
                      exact AllReadyIn.nil
                    refine AllReadyIn.cons rfl (fun K hK => ?_) ?_
                    · go_simp
                      refine hK _ _ ?_
                      clear hK K
                      refine wpAnyIn_ready (rs := [5, 8]) (by kernel_rfl) (by simp) ?_
                      refine AllReadyIn.cons rfl (fun K hK => ?_) ?_
                      · go_simp
                        refine hK _ _ ?_
                        clear hK K
                        refine wpAnyIn_ready (rs := [8]) (by kernel_rfl) (by simp) ?_
                        refine AllReadyIn.cons rfl (fun K hK => ?_) ?_
                        · go_simp; refine ⟨trivial, fun h => absurd h (by decide), ?_⟩; gi_at_call 11; refine (CallsIn.inRound l' (callsIn_wide.2 (HO.out _))).mono ?_; rintro e w5 ⟨rfl, hb5⟩; obtain ⟨cY5, fn2, tmps2, assign2, body2, hy2, hR2⟩ := h1.out w5 hb5
                          refine hK _ _ ?_
                          clear hK K
                          refine wpAnyIn_ready (rs := [9]) (by kernel_rfl) (by simp) ?_
                          refine AllReadyIn.cons rfl (fun K hK => ?_) ?_
                          · go_simp; refine ⟨fun h => absurd h (by decide), hR2.mono ?_⟩; clear hR2; rintro e V2 ⟨b2, rfl, h2⟩
                            refine hK _ _ ?_
                            clear hK K
                            refine wpAnyIn_ready (rs := [10]) (by kernel_rfl) (by simp) ?_
                            refine AllReadyIn.cons rfl (fun K hK => ?_) ?_
                            · go_simp
                              refine hK _ _ ?_
                              clear hK K
                              refine wpAnyIn_ready (rs := [11]) (by kernel_rfl) (by simp) ?_
                              refine AllReadyIn.cons rfl (fun K hK => ?_) ?_
                              · go_simp
                                refine hK _ _ ?_
                                clear hK K
                                refine wpAnyIn_done (by kernel_rfl) ?_ _
                                exact HF.out _ _ _ _ _ _ _ _ _ _ _ _ _ _ _ _ _ _ _ _ _ _ _ _ _ _ _ _ _ _ _ _ _ h2
                              exact AllReadyIn.nil
                            exact AllReadyIn.nil
                          exact AllReadyIn.nil
                        exact AllReadyIn.nil
                      refine AllReadyIn.cons rfl (fun K hK => ?_) ?_
                      · go_simp; refine ⟨trivial, fun h => absurd h (by decide), ?_⟩; gi_at_call 11; refine (CallsIn.inRound l' (callsIn_wide.2 (HO.out _))).mono ?_; rintro e w5 ⟨rfl, hb5⟩; obtain ⟨cY5, fn2, tmps2, assign2, body2, hy2, hR2⟩ := h1.out w5 hb5
                        refine hK _ _ ?_
                        clear hK K
                        refine wpAnyIn_ready (rs := [5]) (by kernel_rfl) (by simp) ?_
                        refine AllReadyIn.cons rfl (fun K hK => ?_) ?_
                        · go_simp
                          refine hK _ _ ?_
                          clear hK K
                          refine wpAnyIn_ready (rs := [9]) (by kernel_rfl) (by simp) ?_
                          refine AllReadyIn.cons rfl (fun K hK => ?_) ?_
                          · go_simp; refine ⟨fun h => absurd h (by decide), hR2.mono ?_⟩; clear hR2; rintro e V2 ⟨b2, rfl, h2⟩
                            refine hK _ _ ?_
                            clear hK K
                            refine wpAnyIn_ready (rs := [10]) (by kernel_rfl) (by simp) ?_
                            refine AllReadyIn.cons rfl (fun K hK => ?_) ?_
                            · go_simp
                              refine hK _ _ ?_
                              clear hK K
                              refine wpAnyIn_ready (rs := [11]) (by kernel_rfl) (by simp) ?_
                              refine AllReadyIn.cons rfl (fun K hK => ?_) ?_
                              · go_simp
                                refine hK _ _ ?_
                                clear hK K
                                refine wpAnyIn_done (by kernel_rfl) ?_ _
                                exact HF.out _ _ _ _ _ _ _ _ _ _ _ _ _ _ _ _ _ _ _ _ _ _ _ _ _ _ _ _ _ _ _ _ _ h2
                              exact AllReadyIn.nil
                            exact AllReadyIn.nil
                          exact AllReadyIn.nil
                        exact AllReadyIn.nil
                      exact AllReadyIn.nil
                    exact AllReadyIn.nil
                  exact AllReadyIn.nil
                exact AllReadyIn.nil
              exact AllReadyIn.nil
            · refine hK _ _ ?_
              clear hK K
              refine wpAnyIn_ready (rs := [3]) (by kernel_rfl) (by simp) ?_
              refine AllReadyIn.cons rfl (fun K hK => ?_) ?_
              · go_simp
                refine hK _ _ ?_
                clear hK K
                refine wpAnyIn_ready (rs := [4]) (by kernel_rfl) (by simp) ?_
                refine AllReadyIn.cons rfl (fun K hK => ?_) ?_
                · go_simp
                  refine hK _ _ ?_
                  clear hK K
                  refine wpAnyIn_ready (rs := [5, 6, 7]) (by kernel_rfl) (by simp) ?_
                  refine AllReadyIn.cons rfl (fun K hK => ?_) ?_
                  · go_simp
                    refine hK _ _ ?_
                    clear hK K
                    refine wpAnyIn_ready (rs := [6, 7]) (by kernel_rfl) (by simp) ?_
                    refine AllReadyIn.cons rfl (fun K hK => ?_) ?_
                    · go_simp
                      refine hK _ _ ?_
                      clear hK K
                      refine wpAnyIn_ready (rs := [7]) (by kernel_rfl) (by simp) ?_
                      refine AllReadyIn.cons rfl (fun K hK => ?_) ?_
                      · go_simp
                        refine hK _ _ ?_
                        clear hK K
                        refine wpAnyIn_ready (rs := [8]) (by kernel_rfl) (by simp) ?_
                        refine AllReadyIn.cons rfl (fun K hK => ?_) ?_
                        · go_simp; refine ⟨trivial, ?_⟩
                          refine hK _ _ ?_
                          clear hK K
                          refine wpAnyIn_ready (rs := [9]) (by kernel_rfl) (by simp) ?_
                          refine AllReadyIn.cons rfl (fun K hK => ?_) ?_
                          · go_simp; try refine ⟨fun _ h => (by cases h), ?_⟩
                            refine hK _ _ ?_
                            clear hK K
                            refine wpAnyIn_ready (rs := [10]) (by kernel_rfl) (by simp) ?_
                            refine AllReadyIn.cons rfl (fun K hK => ?_) ?_
                            · go_simp
                              refine hK _ _ ?_
                              clear hK K
                              refine wpAnyIn_ready (rs := [11]) (by kernel_rfl) (by simp) ?_
                              refine AllReadyIn.cons rfl (fun K hK => ?_) ?_
                              · go_simp
                                refine hK _ _ ?_
                                clear hK K
                                refine wpAnyIn_done (by kernel_rfl) ?_ _
                                exact HF.out _ _ _ _ _ _ _ _ _ _ _ _ _ _ _ _ _ _ _ _ _ _ _ _ _ _ _ _ _ _ _ false _ (hide' ⟨h2.out.1, .inr ⟨rfl, h2.out.2⟩⟩)
                              exact AllReadyIn.nil
                            exact AllReadyIn.nil
                          exact AllReadyIn.nil
                        exact AllReadyIn.nil
                      exact AllReadyIn.nil
                    refine AllReadyIn.cons rfl (fun K hK => ?_) ?_
                    · go_simp
                      refine hK _ _ ?_
                      clear hK K
                      refine wpAnyIn_ready (rs := [6]) (by kernel_rfl) (by simp) ?_
                      refine AllReadyIn.cons rfl (fun K hK => ?_) ?_
                      · go_simp
                        refine hK _ _ ?_
                        clear hK K
                        refine wpAnyIn_ready (rs := [8]) (by kernel_rfl) (by simp) ?_
                        refine AllReadyIn.cons rfl (fun K hK => ?_) ?_
                        · go_simp; refine ⟨trivial, ?_⟩
                          refine hK _ _ ?_
                          clear hK K
                          refine wpAnyIn_ready (rs := [9]) (by kernel_rfl) (by simp) ?_
                          refine AllReadyIn.cons rfl (fun K hK => ?_) ?_
                          · go_simp; try refine ⟨fun _ h => (by cases h), ?_⟩
                            refine hK _ _ ?_
                            clear hK K
                            refine wpAnyIn_ready (rs := [10]) (by kernel_rfl) (by simp) ?_
                            refine AllReadyIn.cons rfl (fun K hK => ?_) ?_
                            · go_simp
                              refine hK _ _ ?_
                              clear hK K
                              refine wpAnyIn_ready (rs := [11]) (by kernel_rfl) (by simp) ?_
                              refine AllReadyIn.cons rfl (fun K hK => ?_) ?_
                              · go_simp
                                refine hK _ _ ?_
                                clear hK K
                                refine wpAnyIn_done (by kernel_rfl) ?_ _
                                exact HF.out _ _ _ _ _ _ _ _ _ _ _ _ _ _ _ _ _ _ _ _ _ _ _ _ _ _ _ _ _ _ _ false _ (hide' ⟨h2.out.1, .inr ⟨rfl, h2.out.2⟩⟩)
                              exact AllReadyIn.nil
                            exact AllReadyIn.nil
                          exact AllReadyIn.nil
                        exact AllReadyIn.nil
                      exact AllReadyIn.nil
                    exact AllReadyIn.nil
                  refine AllReadyIn.cons rfl (fun K hK => ?_) ?_
                  · go_simp
                    refine hK _ _ ?_
                    clear hK K
                    refine wpAnyIn_ready (rs := [5, 7]) (by kernel_rfl) (by simp) ?_
                    refine AllReadyIn.cons rfl (fun K hK => ?_) ?_
                    · go_simp
                      refine hK _ _ ?_
                      clear hK K
                      refine wpAnyIn_ready (rs := [7]) (by kernel_rfl) (by simp) ?_
                      refine AllReadyIn.cons rfl (fun K hK => ?_) ?_
                      · go_simp
                        refine hK _ _ ?_
                        clear hK K
                        refine wpAnyIn_ready (rs := [8]) (by kernel_rfl) (by simp) ?_
                        refine AllReadyIn.cons rfl (fun K hK => ?_) ?_
                        · go_simp; refine ⟨trivial, ?_⟩
                          refine hK _ _ ?_
                          clear hK K
                          refine wpAnyIn_ready (rs := [9]) (by kernel_rfl) (by simp) ?_
                          refine AllReadyIn.cons rfl (fun K hK => ?_) ?_
                          · go_simp; try refine ⟨fun _ h => (by cases h), ?_⟩
                            refine hK _ _ ?_
                            clear hK K
                            refine wpAnyIn_ready (rs := [10]) (by kernel_rfl) (by simp) ?_
                            refine AllReadyIn.cons rfl (fun K hK => ?_) ?_
                            · go_simp
                              refine hK _ _ ?_
                              clear hK K
                              refine wpAnyIn_ready (rs := [11]) (by kernel_rfl) (by simp) ?_
                              refine AllReadyIn.cons rfl (fun K hK => ?_) ?_
                              · go_simp
                                refine hK _ _ ?_
                                clear hK K
                                refine wpAnyIn_done (by kernel_rfl) ?_ _
                                exact HF.out _ _ _ _ _ _ _ _ _ _ _ _ _ _ _ _ _ _ _ _ _ _ _ _ _ _ _ _ _ _ _ false _ (hide' ⟨h2.out.1, .inr ⟨rfl, h2.out.2⟩⟩)
                              exact AllReadyIn.nil
                            exact AllReadyIn.nil
                          exact AllReadyIn.nil
                        exact AllReadyIn.nil
                      exact AllReadyIn.nil
                    refine AllReadyIn.cons rfl (fun K hK => ?_) ?_
                    · go_simp
                      refine hK _ _ ?_
                      clear hK K
                      refine wpAnyIn_ready (rs := [5, 8]) (by kernel_rfl) (by simp) ?_
                      refine AllReadyIn.cons rfl (fun K hK => ?_) ?_
                      · go_simp
                        refine hK _ _ ?_
                        clear hK K
                        refine wpAnyIn_ready (rs := [8]) (by kernel_rfl) (by simp) ?_
                        refine AllReadyIn.cons rfl (fun K hK => ?_) ?_
                        · go_simp; refine ⟨trivial, ?_⟩
                          refine hK _ _ ?_
                          clear hK K
                          refine wpAnyIn_ready (rs := [9]) (by kernel_rfl) (by simp) ?_
                          refine AllReadyIn.cons rfl (fun K hK => ?_) ?_
                          · go_simp; try refine ⟨fun _ h => (by cases h), ?_⟩
                            refine hK _ _ ?_
                            clear hK K
                            refine wpAnyIn_ready (rs := [10]) (by kernel_rfl) (by simp) ?_
                            refine AllReadyIn.cons rfl (fun K hK => ?_) ?_
                            · go_simp
                              refine hK _ _ ?_
                              clear hK K
                              refine wpAnyIn_ready (rs := [11]) (by kernel_rfl) (by simp) ?_
                              refine AllReadyIn.cons rfl (fun K hK => ?_) ?_
                              · go_simp
                                refine hK _ _ ?_
                                clear hK K
                                refine wpAnyIn_done (by kernel_rfl) ?_ _
                                exact HF.out _ _ _ _ _ _ _ _ _ _ _ _ _ _ _ _ _ _ _ _ _ _ _ _ _ _ _ _ _ _ _ false _ (hide' ⟨h2.out.1, .inr ⟨rfl, h2.out.2⟩⟩)
                              exact AllReadyIn.nil
                            exact AllReadyIn.nil
                          exact AllReadyIn.nil
                        exact AllReadyIn.nil
                      refine AllReadyIn.cons rfl (fun K hK => ?_) ?_
                      · go_simp; refine ⟨trivial, ?_⟩
                        refine hK _ _ ?_
                        clear hK K
                        refine wpAnyIn_ready (rs := [5]) (by kernel_rfl) (by simp) ?_
                        refine AllReadyIn.cons rfl (fun K hK => ?_) ?_
                        · go_simp
                          refine hK _ _ ?_
                          clear hK K
                          refine wpAnyIn_ready (rs := [9]) (by kernel_rfl) (by simp) ?_
                          refine AllReadyIn.cons rfl (fun K hK => ?_) ?_
                          · go_simp; try refine ⟨fun _ h => (by cases h), ?_⟩
                            refine hK _ _ ?_
                            clear hK K
                            refine wpAnyIn_ready (rs := [10]) (by kernel_rfl) (by simp) ?_
                            refine AllReadyIn.cons rfl (fun K hK => ?_) ?_
                            · go_simp
                              refine hK _ _ ?_
                              clear hK K
                              refine wpAnyIn_ready (rs := [11]) (by kernel_rfl) (by simp) ?_
                              refine AllReadyIn.cons rfl (fun K hK => ?_) ?_
                              · go_simp
                                refine hK _ _ ?_
                                clear hK K
                                refine wpAnyIn_done (by kernel_rfl) ?_ _
                                exact HF.out _ _ _ _ _ _ _ _ _ _ _ _ _ _ _ _ _ _ _ _ _ _ _ _ _ _ _ _ _ _ _ false _ (hide' ⟨h2.out.1, .inr ⟨rfl, h2.out.2⟩⟩)
                              exact AllReadyIn.nil
                            exact AllReadyIn.nil
                          exact AllReadyIn.nil
                        exact AllReadyIn.nil
                      exact AllReadyIn.nil
                    exact AllReadyIn.nil
                  refine AllReadyIn.cons rfl (fun K hK => ?_) ?_
                  · go_simp
                    refine hK _ _ ?_
                    clear hK K
                    refine wpAnyIn_ready (rs := [5, 6]) (by kernel_rfl) (by simp) ?_
                    refine AllReadyIn.cons rfl (fun K hK => ?_) ?_
                    · go_simp
                      refine hK _ _ ?_
                      clear hK K
                      refine wpAnyIn_ready (rs := [6]) (by kernel_rfl) (by simp) ?_
                      refine AllReadyIn.cons rfl (fun K hK => ?_) ?_
                      · go_simp
                        refine hK _ _ ?_
                        clear hK K
                        refine wpAnyIn_ready (rs := [8]) (by kernel_rfl) (by simp) ?_
                        refine AllReadyIn.cons rfl (fun K hK => ?_) ?_
                        · go_simp; refine ⟨trivial, ?_⟩
                          refine hK _ _ ?_
                          clear hK K
                          refine wpAnyIn_ready (rs := [9]) (by kernel_rfl) (by simp) ?_
                          refine AllReadyIn.cons rfl (fun K hK => ?_) ?_
                          · go_simp; try refine ⟨fun _ h => (by cases h), ?_⟩
                            refine hK _ _ ?_
                            clear hK K
                            refine wpAnyIn_ready (rs := [10]) (by kernel_rfl) (by simp) ?_
                            refine AllReadyIn.cons rfl (fun K hK => ?_) ?_
                            · go_simp
                              refine hK _ _ ?_
                              clear hK K
                              refine wpAnyIn_ready (rs := [11]) (by kernel_rfl) (by simp) ?_
                              refine AllReadyIn.cons rfl (fun K hK => ?_) ?_
                              · go_simp
                                refine hK _ _ ?_
                                clear hK K
                                refine wpAnyIn_done (by kernel_rfl) ?_ _
                                exact HF.out _ _ _ _ _ _ _ _ _ _ _ _ _ _ _ _ _ _ _ _ _ _ _ _ _ _ _ _ _ _ _ false _ (hide' ⟨h2.out.1, .inr ⟨rfl, h2.out.2⟩⟩)
                              exact AllReadyIn.nil
                            exact AllReadyIn.nil
                          exact AllReadyIn.nil
                        exact AllReadyIn.nil
                      exact AllReadyIn.nil
                    refine AllReadyIn.cons rfl (fun K hK => ?_) ?_
                    · go_simp
                      refine hK _ _ ?_
                      clear hK K
                      refine wpAnyIn_ready (rs := [5, 8]) (by kernel_rfl) (by simp) ?_
                      refine AllReadyIn.cons rfl (fun K hK => ?_) ?_
                      · go_simp
                        refine hK _ _ ?_
                        clear hK K
                        refine wpAnyIn_ready (rs := [8]) (by kernel_rfl) (by simp) ?_
                        refine AllReadyIn.cons rfl (fun K hK => ?_) ?_
                        · go_simp; refine ⟨trivial, ?_⟩
                          refine hK _ _ ?_
                          clear hK K
                          refine wpAnyIn_ready (rs := [9]) (by kernel_rfl) (by simp) ?_
                          refine AllReadyIn.cons rfl (fun K hK => ?_) ?_
                          · go_simp; try refine ⟨fun _ h => (by cases h), ?_⟩
                            refine hK _ _ ?_
                            clear hK K
                            refine wpAnyIn_ready (rs := [10]) (by kernel_rfl) (by simp) ?_
                            refine AllReadyIn.cons rfl (fun K hK => ?_) ?_
                            · go_simp
                              refine hK _ _ ?_
                              clear hK K
                              refine wpAnyIn_ready (rs := [11]) (by kernel_rfl) (by simp) ?_
                              refine AllReadyIn.cons rfl (fun K hK => ?_) ?_
                              · go_simp
                                refine hK _ _ ?_
                                clear hK K
                                refine wpAnyIn_done (by kernel_rfl) ?_ _
                                exact HF.out _ _ _ _ _ _ _ _ _ _ _ _ _ _ _ _ _ _ _ _ _ _ _ _ _ _ _ _ _ _ _ false _ (hide' ⟨h2.out.1, .inr ⟨rfl, h2.out.2⟩⟩)
                              exact AllReadyIn.nil
                            exact AllReadyIn.nil
                          exact AllReadyIn.nil
                        exact AllReadyIn.nil
                      refine AllReadyIn.cons rfl (fun K hK => ?_) ?_
                      · go_simp; refine ⟨trivial, ?_⟩
                        refine hK _ _ ?_
                        clear hK K
                        refine wpAnyIn_ready (rs := [5]) (by kernel_rfl) (by simp) ?_
                        refine AllReadyIn.cons rfl (fun K hK => ?_) ?_
                        · go_simp
                          refine hK _ _ ?_
                          clear hK K
                          refine wpAnyIn_ready (rs := [9]) (by kernel_rfl) (by simp) ?_
                          refine AllReadyIn.cons rfl (fun K hK => ?_) ?_
                          · go_simp; try refine ⟨fun _ h => (by cases h), ?_⟩
                            refine hK _ _ ?_
                            clear hK K
                            refine wpAnyIn_ready (rs := [10]) (by kernel_rfl) (by simp) ?_
                            refine AllReadyIn.cons rfl (fun K hK => ?_) ?_
                            · go_simp
                              refine hK _ _ ?_
                              clear hK K
                              refine wpAnyIn_ready (rs := [11]) (by kernel_rfl) (by simp) ?_
                              refine AllReadyIn.cons rfl (fun K hK => ?_) ?_
                              · go_simp
                                refine hK _ _ ?_
                                clear hK K
                                refine wpAnyIn_done (by kernel_rfl) ?_ _
                                exact HF.out _ _ _ _ _ _ _ _ _ _ _ _ _ _ _ _ _ _ _ _ _ _ _ _ _ _ _ _ _ _ _ false _ (hide' ⟨h2.out.1, .inr ⟨rfl, h2.out.2⟩⟩)
                              exact AllReadyIn.nil
                            exact AllReadyIn.nil
                          exact AllReadyIn.nil
                        exact AllReadyIn.nil
                      exact AllReadyIn.nil
                    exact AllReadyIn.nil
                  exact AllReadyIn.nil
                exact AllReadyIn.nil
              exact AllReadyIn.nil
          exact AllReadyIn.nil
        exact AllReadyIn.nil
      refine AllReadyIn.cons rfl (fun K hK => ?_) ?_
      · go_simp
        refine hK _ _ ?_
        clear hK K
        refine wpAnyIn_ready (rs := [0]) (by kernel_rfl) (by simp) ?_
        refine AllReadyIn.cons rfl (fun K hK => ?_) ?_
        · go_simp
          refine hK _ _ ?_
          clear hK K
          refine wpAnyIn_ready (rs := [2]) (by kernel_rfl) (by simp) ?_
          refine AllReadyIn.cons rfl (fun K hK => ?_) ?_
          · go_simp; refine ⟨fun h => absurd h (by decide), hR1.mono ?_⟩; clear hR1; rintro e V1 (⟨rfl, cY2, cT2, cL2, h1⟩ | ⟨rfl, h2⟩)
            · refine hK _ _ ?_
              clear hK K
              refine wpAnyIn_ready (rs := [3]) (by kernel_rfl) (by simp) ?_
              refine AllReadyIn.cons rfl (fun K hK => ?_) ?_
              · go_simp
                refine hK _ _ ?_
                clear hK K
                refine wpAnyIn_ready (rs := [4]) (by kernel_rfl) (by simp) ?_
                refine AllReadyIn.cons rfl (fun K hK => ?_) ?_
                · go_simp
                  refine hK _ _ ?_
                  clear hK K
                  refine wpAnyIn_ready (rs := [5, 6, 7]) (by kernel_rfl) (by simp) ?_
                  refine AllReadyIn.cons rfl (fun K hK => ?_) ?_
                  · go_simp
                    refine hK _ _ ?_
                    clear hK K
                    refine wpAnyIn_ready (rs := [6, 7]) (by kernel_rfl) (by simp) ?_
                    refine AllReadyIn.cons rfl (fun K hK => ?_) ?_
                    · go_simp
                      refine hK _ _ ?_
                      clear hK K
                      refine wpAnyIn_ready (rs := [7]) (by kernel_rfl) (by simp) ?_
                      refine AllReadyIn.cons rfl (fun K hK => ?_) ?_
                      · go_simp
                        refine hK _ _ ?_
                        clear hK K
                        refine wpAnyIn_ready (rs := [8]) (by kernel_rfl) (by simp) ?_
                        refine AllReadyIn.cons rfl (fun K hK => ?_) ?_
                        · go_simp; refine ⟨trivial, fun h => absurd h (by decide), ?_⟩; gi_at_call 11; refine (CallsIn.inRound l' (callsIn_wide.2 (HO.out _))).mono ?_; rintro e w5 ⟨rfl, hb5⟩; obtain ⟨cY5, fn2, tmps2, assign2, body2, hy2, hR2⟩ := h1.out w5 hb5
                          refine hK _ _ ?_
                          clear hK K
                          refine wpAnyIn_ready (rs := [9]) (by kernel_rfl) (by simp) ?_
                          refine AllReadyIn.cons rfl (fun K hK => ?_) ?_
                          · go_simp; refine ⟨fun h => absurd h (by decide), hR2.mono ?_⟩; clear hR2; rintro e V2 ⟨b2, rfl, h2⟩
                            refine hK _ _ ?_
                            clear hK K
                            refine wpAnyIn_ready (rs := [10]) (by kernel_rfl) (by simp) ?_
                            refine AllReadyIn.cons rfl (fun K hK => ?_) ?_
                            · go_simp
                              refine hK _ _ ?_
                              clear hK K
                              refine wpAnyIn_ready (rs := [11]) (by kernel_rfl) (by simp) ?_
                              refine AllReadyIn.cons rfl (fun K hK => ?_) ?_
                              · go_simp
                                refine hK _ _ ?_
                                clear hK K
                                refine wpAnyIn_done (by kernel_rfl) ?_ _
                                exact HF.out _ _ _ _ _ _ _ _ _ _ _ _ _ _ _ _ _ _ _ _ _ _ _ _ _ _ _ _ _ _ _ _ _ h2
                              exact AllReadyIn.nil
                            exact AllReadyIn.nil
                          exact AllReadyIn.nil
                        exact AllReadyIn.nil
                      exact AllReadyIn.nil
                    refine AllReadyIn.cons rfl (fun K hK => ?_) ?_
                    · go_simp
                      refine hK _ _ ?_
                      clear hK K
                      refine wpAnyIn_ready (rs := [6]) (by kernel_rfl) (by simp) ?_
                      refine AllReadyIn.cons rfl (fun K hK => ?_) ?_
                      · go_simp
                        refine hK _ _ ?_
                        clear hK K
                        refine wpAnyIn_ready (rs := [8]) (by kernel_rfl) (by simp) ?_
                        refine AllReadyIn.cons rfl (fun K hK => ?_) ?_
                        · go_simp; refine ⟨trivial, fun h => absurd h (by decide), ?_⟩; gi_at_call 11; refine (CallsIn.inRound l' (callsIn_wide.2 (HO.out _))).mono ?_; rintro e w5 ⟨rfl, hb5⟩; obtain ⟨cY5, fn2, tmps2, assign2, body2, hy2, hR2⟩ := h1.out w5 hb5
                          refine hK _ _ ?_
                          clear hK K
                          refine wpAnyIn_ready (rs := [9]) (by kernel_rfl) (by simp) ?_
                          refine AllReadyIn.cons rfl (fun K hK => ?_) ?_
                          · go_simp; refine ⟨fun h => absurd h (by decide), hR2.mono ?_⟩; clear hR2; rintro e V2 ⟨b2, rfl, h2⟩
                            refine hK _ _ ?_
                            clear hK K
                            refine wpAnyIn_ready (rs := [10]) (by kernel_rfl) (by simp) ?_
                            refine AllReadyIn.cons rfl (fun K hK => ?_) ?_
                            · go_simp
                              refine hK _ _ ?_
                              clear hK K
                              refine wpAnyIn_ready (rs := [11]) (by kernel_rfl) (by simp) ?_
                              refine AllReadyIn.cons rfl (fun K hK => ?_) ?_
                              · go_simp
                                refine hK _ _ ?_
                                clear hK K
                                refine wpAnyIn_done (by kernel_rfl) ?_ _
                                exact HF.out _ _ _ _ _ _ _ _ _ _ _ _ _ _ _ _ _ _ _ _ _ _ _ _ _ _ _ _ _ _ _ _ _ h2
                              exact AllReadyIn.nil
                            exact AllReadyIn.nil
                          exact AllReadyIn.nil
                        exact AllReadyIn.nil
                      exact AllReadyIn.nil
                    exact AllReadyIn.nil
                  refine AllReadyIn.cons rfl (fun K hK => ?_) ?_
                  · go_simp
                    refine hK _ _ ?_
                    clear hK K
                    refine wpAnyIn_ready (rs := [5, 7]) (by kernel_rfl) (by simp) ?_
                    refine AllReadyIn.cons rfl (fun K hK => ?_) ?_
                    · go_simp
                      refine hK _ _ ?_
                      clear hK K
                      refine wpAnyIn_ready (rs := [7]) (by kernel_rfl) (by simp) ?_
                      refine AllReadyIn.cons rfl (fun K hK => ?_) ?_
                      · go_simp
                        refine hK _ _ ?_
                        clear hK K
                        refine wpAnyIn_ready (rs := [8]) (by kernel_rfl) (by simp) ?_
                        refine AllReadyIn.cons rfl (fun K hK => ?_) ?_
                        · go_simp; refine ⟨trivial, fun h => absurd h (by decide), ?_⟩; gi_at_call 11; refine (CallsIn.inRound l' (callsIn_wide.2 (HO.out _))).mono ?_; rintro e w5 ⟨rfl, hb5⟩; obtain ⟨cY5, fn2, tmps2, assign2, body2, hy2, hR2⟩ := h1.out w5 hb5
                          refine hK _ _ ?_
                          clear hK K
                          refine wpAnyIn_ready (rs := [9]) (by kernel_rfl) (by simp) ?_
                          refine AllReadyIn.cons rfl (fun K hK => ?_) ?_
                          · go_simp; refine ⟨fun h => absurd h (by decide), hR2.mono ?_⟩; clear hR2; rintro e V2 ⟨b2, rfl, h2⟩
                            refine hK _ _ ?_
                            clear hK K
                            refine wpAnyIn_ready (rs := [10]) (by kernel_rfl) (by simp) ?_
                            refine AllReadyIn.cons rfl (fun K hK => ?_) ?_
                            · go_simp
                              refine hK _ _ ?_
                              clear hK K
                              refine wpAnyIn_ready (rs := [11]) (by kernel_rfl) (by simp) ?_
                              refine AllReadyIn.cons rfl (fun K hK => ?_) ?_
                              · go_simp
                                refine hK _ _ ?_
                                clear hK K
                                refine wpAnyIn_done (by kernel_rfl) ?_ _
                                exact HF.out _ _ _ _ _ _ _ _ _ _ _ _ _ _ _ _ _ _ _ _ _ _ _ _ _ _ _ _ _ _ _ _ _ h2
                              exact AllReadyIn.nil
                            exact AllReadyIn.nil
                          exact AllReadyIn.nil
                        exact AllReadyIn.nil
                      exact AllReadyIn.nil
                    refine AllReadyIn.cons rfl (fun K hK => ?_) ?_
                    · go_simp
                      refine hK _ _ ?_
                      clear hK K
                      refine wpAnyIn_ready (rs := [5, 8]) (by kernel_rfl) (by simp) ?_
                      refine AllReadyIn.cons rfl (fun K hK => ?_) ?_
                      · go_simp
                        refine hK _ _ ?_
                        clear hK K
                        refine wpAnyIn_ready (rs := [8]) (by kernel_rfl) (by simp) ?_
                        refine AllReadyIn.cons rfl (fun K hK => ?_) ?_
                        · go_simp; refine ⟨trivial, fun h => absurd h (by decide), ?_⟩; gi_at_call 11; refine (CallsIn.inRound l' (callsIn_wide.2 (HO.out _))).mono ?_; rintro e w5 ⟨rfl, hb5⟩; obtain ⟨cY5, fn2, tmps2, assign2, body2, hy2, hR2⟩ := h1.out w5 hb5
                          refine hK _ _ ?_
                          clear hK K
                          refine wpAnyIn_ready (rs := [9]) (by kernel_rfl) (by simp) ?_
                          refine AllReadyIn.cons rfl (fun K hK => ?_) ?_
                          · go_simp; refine ⟨fun h => absurd h (by decide), hR2.mono ?_⟩; clear hR2; rintro e V2 ⟨b2, rfl, h2⟩
                            refine hK _ _ ?_
                            clear hK K
                            refine wpAnyIn_ready (rs := [10]) (by kernel_rfl) (by simp) ?_
                            refine AllReadyIn.cons rfl (fun K hK => ?_) ?_
                            · go_simp
                              refine hK _ _ ?_
                              clear hK K
                              refine wpAnyIn_ready (rs := [11]) (by kernel_rfl) (by simp) ?_
                              refine AllReadyIn.cons rfl (fun K hK => ?_) ?_
                              · go_simp
                                refine hK _ _ ?_
                                clear hK K
                                refine wpAnyIn_done (by kernel_rfl) ?_ _
                                exact HF.out _ _ _ _ _ _ _ _ _ _ _ _ _ _ _ _ _ _ _ _ _ _ _ _ _ _ _ _ _ _ _ _ _ h2
                              exact AllReadyIn.nil
                            exact AllReadyIn.nil
                          exact AllReadyIn.nil
                        exact AllReadyIn.nil
                      refine AllReadyIn.cons rfl (fun K hK => ?_) ?_
                      · go_simp; refine ⟨trivial, fun h => absurd h (by decide), ?_⟩; gi_at_call 11; refine (CallsIn.inRound l' (callsIn_wide.2 (HO.out _))).mono ?_; rintro e w5 ⟨rfl, hb5⟩; obtain ⟨cY5, fn2, tmps2, assign2, body2, hy2, hR2⟩ := h1.out w5 hb5
                        refine hK _ _ ?_
                        clear hK K
                        refine wpAnyIn_ready (rs := [5]) (by kernel_rfl) (by simp) ?_
                        refine AllReadyIn.cons rfl (fun K hK => ?_) ?_
                        · go_simp
                          refine hK _ _ ?_
                          clear hK K
                          refine wpAnyIn_ready (rs := [9]) (by kernel_rfl) (by simp) ?_
                          refine AllReadyIn.cons rfl (fun K hK => ?_) ?_
                          · go_simp; refine ⟨fun h => absurd h (by decide), hR2.mono ?_⟩; clear hR2; rintro e V2 ⟨b2, rfl, h2⟩
                            refine hK _ _ ?_
                            clear hK K
                            refine wpAnyIn_ready (rs := [10]) (by kernel_rfl) (by simp) ?_
                            refine AllReadyIn.cons rfl (fun K hK => ?_) ?_
                            · go_simp
                              refine hK _ _ ?_
                              clear hK K
                              refine wpAnyIn_ready (rs := [11]) (by kernel_rfl) (by simp) ?_
                              refine AllReadyIn.cons rfl (fun K hK => ?_) ?_
                              · go_simp
                                refine hK _ _ ?_
                                clear hK K
                                refine wpAnyIn_done (by kernel_rfl) ?_ _
                                exact HF.out _ _ _ _ _ _ _ _ _ _ _ _ _ _ _ _ _ _ _ _ _ _ _ _ _ _ _ _ _ _ _ _ _ h2
                              exact AllReadyIn.nil
                            exact AllReadyIn.nil
                          exact AllReadyIn.nil
                        exact AllReadyIn.nil
                      exact AllReadyIn.nil
                    exact AllReadyIn.nil
                  refine AllReadyIn.cons rfl (fun K hK => ?_) ?_
                  · go_simp
                    refine hK _ _ ?_
                    clear hK K
                    refine wpAnyIn_ready (rs := [5, 6]) (by kernel_rfl) (by simp) ?_
                    refine AllReadyIn.cons rfl (fun K hK => ?_) ?_
                    · go_simp
                      refine hK _ _ ?_
                      clear hK K
                      refine wpAnyIn_ready (rs := [6]) (by kernel_rfl) (by simp) ?_
                      refine AllReadyIn.cons rfl (fun K hK => ?_) ?_
                      · go_simp
                        refine hK _ _ ?_
                        clear hK K
                        refine wpAnyIn_ready (rs := [8]) (by kernel_rfl) (by simp) ?_
                        refine AllReadyIn.cons rfl (fun K hK => ?_) ?_
                        · go_simp; refine ⟨trivial, fun h => absurd h (by decide), ?_⟩; gi_at_call 11; refine (CallsIn.inRound l' (callsIn_wide.2 (HO.out _))).mono ?_; rintro e w5 ⟨rfl, hb5⟩; obtain ⟨cY5, fn2, tmps2, assign2, body2, hy2, hR2⟩ := h1.out w5 hb5
                          refine hK _ _ ?_
                          clear hK K
                          refine wpAnyIn_ready (rs := [9]) (by kernel_rfl) (by simp) ?_
                          refine AllReadyIn.cons rfl (fun K hK => ?_) ?_
                          · go_simp; refine ⟨fun h => absurd h (by decide), hR2.mono ?_⟩; clear hR2; rintro e V2 ⟨b2, rfl, h2⟩
                            refine hK _ _ ?_
                            clear hK K
                            refine wpAnyIn_ready (rs := [10]) (by kernel_rfl) (by simp) ?_
                            refine AllReadyIn.cons rfl (fun K hK => ?_) ?_
                            · go_simp
                              refine hK _ _ ?_
                              clear hK K
                              refine wpAnyIn_ready (rs := [11]) (by kernel_rfl) (by simp) ?_
                              refine AllReadyIn.cons rfl (fun K hK => ?_) ?_
                              · go_simp
                                refine hK _ _ ?_
                                clear hK K
                                refine wpAnyIn_done (by kernel_rfl) ?_ _
                                exact HF.out _ _ _ _ _ _ _ _ _ _ _ _ _ _ _ _ _ _ _ _ _ _ _ _ _ _ _ _ _ _ _ _ _ h2
                              exact AllReadyIn.nil
                            exact AllReadyIn.nil
                          exact AllReadyIn.nil
                        exact AllReadyIn.nil
                      exact AllReadyIn.nil
                    refine AllReadyIn.cons rfl (fun K hK => ?_) ?_
                    · go_simp
                      refine hK _ _ ?_
                      clear hK K
                      refine wpAnyIn_ready (rs := [5, 8]) (by kernel_rfl) (by simp) ?_
                      refine AllReadyIn.cons rfl (fun K hK => ?_) ?_
                      · go_simp
                        refine hK _ _ ?_
                        clear hK K
                        refine wpAnyIn_ready (rs := [8]) (by kernel_rfl) (by simp) ?_
                        refine AllReadyIn.cons rfl (fun K hK => ?_) ?_
                        · go_simp; refine ⟨trivial, fun h => absurd h (by decide), ?_⟩; gi_at_call 11; refine (CallsIn.inRound l' (callsIn_wide.2 (HO.out _))).mono ?_; rintro e w5 ⟨rfl, hb5⟩; obtain ⟨cY5, fn2, tmps2, assign2, body2, hy2, hR2⟩ := h1.out w5 hb5
                          refine hK _ _ ?_
                          clear hK K
                          refine wpAnyIn_ready (rs := [9]) (by kernel_rfl) (by simp) ?_
                          refine AllReadyIn.cons rfl (fun K hK => ?_) ?_
                          · go_simp; refine ⟨fun h => absurd h (by decide), hR2.mono ?_⟩; clear hR2; rintro e V2 ⟨b2, rfl, h2⟩
                            refine hK _ _ ?_
                            clear hK K
                            refine wpAnyIn_ready (rs := [10]) (by kernel_rfl) (by simp) ?_
                            refine AllReadyIn.cons rfl (fun K hK => ?_) ?_
                            · go_simp
                              refine hK _ _ ?_
                              clear hK K
                              refine wpAnyIn_ready (rs := [11]) (by kernel_rfl) (by simp) ?_
                              refine AllReadyIn.cons rfl (fun K hK => ?_) ?_
                              · go_simp
                                refine hK _ _ ?_
                                clear hK K
                                refine wpAnyIn_done (by kernel_rfl) ?_ _
                                exact HF.out _ _ _ _ _ _ _ _ _ _ _ _ _ _ _ _ _ _ _ _ _ _ _ _ _ _ _ _ _ _ _ _ _ h2
                              exact AllReadyIn.nil
                            exact AllReadyIn.nil
                          exact AllReadyIn.nil
                        exact AllReadyIn.nil
                      refine AllReadyIn.cons rfl (fun K hK => ?_) ?_
                      · go_simp; refine ⟨trivial, fun h => absurd h (by decide), ?_⟩; gi_at_call 11; refine (CallsIn.inRound l' (callsIn_wide.2 (HO.out _))).mono ?_; rintro e w5 ⟨rfl, hb5⟩; obtain ⟨cY5, fn2, tmps2, assign2, body2, hy2, hR2⟩ := h1.out w5 hb5
                        refine hK _ _ ?_
                        clear hK K
                        refine wpAnyIn_ready (rs := [5]) (by kernel_rfl) (by simp) ?_
                        refine AllReadyIn.cons rfl (fun K hK => ?_) ?_
                        · go_simp
                          refine hK _ _ ?_
                          clear hK K
                          refine wpAnyIn_ready (rs := [9]) (by kernel_rfl) (by simp) ?_
                          refine AllReadyIn.cons rfl (fun K hK => ?_) ?_
                          · go_simp; refine ⟨fun h => absurd h (by decide), hR2.mono ?_⟩; clear hR2; rintro e V2 ⟨b2, rfl, h2⟩
                            refine hK _ _ ?_
                            clear hK K
                            refine wpAnyIn_ready (rs := [10]) (by kernel_rfl) (by simp) ?_
                            refine AllReadyIn.cons rfl (fun K hK => ?_) ?_
                            · go_simp
                              refine hK _ _ ?_
                              clear hK K
                              refine wpAnyIn_ready (rs := [11]) (by kernel_rfl) (by simp) ?_
                              refine AllReadyIn.cons rfl (fun K hK => ?_) ?_
                              · go_simp
                                refine hK _ _ ?_
                                clear hK K
                                refine wpAnyIn_done (by kernel_rfl) ?_ _
                                exact HF.out _ _ _ _ _ _ _ _ _ _ _ _ _ _ _ _ _ _ _ _ _ _ _ _ _ _ _ _ _ _ _ _ _ h2
                              exact AllReadyIn.nil
                            exact AllReadyIn.nil
                          exact AllReadyIn.nil
                        exact AllReadyIn.nil
                      exact AllReadyIn.nil
                    exact AllReadyIn.nil
                  exact AllReadyIn.nil
                exact AllReadyIn.nil
              exact AllReadyIn.nil
            · refine hK _ _ ?_
              clear hK K
              refine wpAnyIn_ready (rs := [3]) (by kernel_rfl) (by simp) ?_
              refine AllReadyIn.cons rfl (fun K hK => ?_) ?_
              · go_simp
                refine hK _ _ ?_
                clear hK K
                refine wpAnyIn_ready (rs := [4]) (by kernel_rfl) (by simp) ?_
                refine AllReadyIn.cons rfl (fun K hK => ?_) ?_
                · go_simp
                  refine hK _ _ ?_
                  clear hK K
                  refine wpAnyIn_ready (rs := [5, 6, 7]) (by kernel_rfl) (by simp) ?_
                  refine AllReadyIn.cons rfl (fun K hK => ?_) ?_
                  · go_simp
                    refine hK _ _ ?_
                    clear hK K
                    refine wpAnyIn_ready (rs := [6, 7]) (by kernel_rfl) (by simp) ?_
                    refine AllReadyIn.cons rfl (fun K hK => ?_) ?_
                    · go_simp
                      refine hK _ _ ?_
                      clear hK K
                      refine wpAnyIn_ready (rs := [7]) (by kernel_rfl) (by simp) ?_
                      refine AllReadyIn.cons rfl (fun K hK => ?_) ?_
                      · go_simp
                        refine hK _ _ ?_
                        clear hK K
                        refine wpAnyIn_ready (rs := [8]) (by kernel_rfl) (by simp) ?_
                        refine AllReadyIn.cons rfl (fun K hK => ?_) ?_
                        · go_simp; refine ⟨trivial, ?_⟩
                          refine hK _ _ ?_
                          clear hK K
                          refine wpAnyIn_ready (rs := [9]) (by kernel_rfl) (by simp) ?_
                          refine AllReadyIn.cons rfl (fun K hK => ?_) ?_
                          · go_simp; try refine ⟨fun _ h => (by cases h), ?_⟩
                            refine hK _ _ ?_
                            clear hK K
                            refine wpAnyIn_ready (rs := [10]) (by kernel_rfl) (by simp) ?_
                            refine AllReadyIn.cons rfl (fun K hK => ?_) ?_
                            · go_simp
                              refine hK _ _ ?_
                              clear hK K
                              refine wpAnyIn_ready (rs := [11]) (by kernel_rfl) (by simp) ?_
                              refine AllReadyIn.cons rfl (fun K hK => ?_) ?_
                              · go_simp
                                refine hK _ _ ?_
                                clear hK K
                                refine wpAnyIn_done (by kernel_rfl) ?_ _
                                exact HF.out _ _ _ _ _ _ _ _ _ _ _ _ _ _ _ _ _ _ _ _ _ _ _ _ _ _ _ _ _ _ _ false _ (hide' ⟨h2.out.1, .inr ⟨rfl, h2.out.2⟩⟩)
                              exact AllReadyIn.nil
                            exact AllReadyIn.nil
                          exact AllReadyIn.nil
                        exact AllReadyIn.nil
                      exact AllReadyIn.nil
                    refine AllReadyIn.cons rfl (fun K hK => ?_) ?_
                    · go_simp
                      refine hK _ _ ?_
                      clear hK K
                      refine wpAnyIn_ready (rs := [6]) (by kernel_rfl) (by simp) ?_
                      refine AllReadyIn.cons rfl (fun K hK => ?_) ?_
                      · go_simp
                        refine hK _ _ ?_
                        clear hK K
                        refine wpAnyIn_ready (rs := [8]) (by kernel_rfl) (by simp) ?_
                        refine AllReadyIn.cons rfl (fun K hK => ?_) ?_
                        · go_simp; refine ⟨trivial, ?_⟩
                          refine hK _ _ ?_
                          clear hK K
                          refine wpAnyIn_ready (rs := [9]) (by kernel_rfl) (by simp) ?_
                          refine AllReadyIn.cons rfl (fun K hK => ?_) ?_
                          · go_simp; try refine ⟨fun _ h => (by cases h), ?_⟩
                            refine hK _ _ ?_
                            clear hK K
                            refine wpAnyIn_ready (rs := [10]) (by kernel_rfl) (by simp) ?_
                            refine AllReadyIn.cons rfl (fun K hK => ?_) ?_
                            · go_simp
                              refine hK _ _ ?_
                              clear hK K
                              refine wpAnyIn_ready (rs := [11]) (by kernel_rfl) (by simp) ?_
                              refine AllReadyIn.cons rfl (fun K hK => ?_) ?_
                              · go_simp
                                refine hK _ _ ?_
                                clear hK K
                                refine wpAnyIn_done (by kernel_rfl) ?_ _
                                exact HF.out _ _ _ _ _ _ _ _ _ _ _ _ _ _ _ _ _ _ _ _ _ _ _ _ _ _ _ _ _ _ _ false _ (hide' ⟨h2.out.1, .inr ⟨rfl, h2.out.2⟩⟩)
                              exact AllReadyIn.nil
                            exact AllReadyIn.nil
                          exact AllReadyIn.nil
                        exact AllReadyIn.nil
                      exact AllReadyIn.nil
                    exact AllReadyIn.nil
                  refine AllReadyIn.cons rfl (fun K hK => ?_) ?_
                  · go_simp
                    refine hK _ _ ?_
                    clear hK K
                    refine wpAnyIn_ready (rs := [5, 7]) (by kernel_rfl) (by simp) ?_
                    refine AllReadyIn.cons rfl (fun K hK => ?_) ?_
                    · go_simp
                      refine hK _ _ ?_
                      clear hK K
                      refine wpAnyIn_ready (rs := [7]) (by kernel_rfl) (by simp) ?_
                      refine AllReadyIn.cons rfl (fun K hK => ?_) ?_
                      · go_simp
                        refine hK _ _ ?_
                        clear hK K
                        refine wpAnyIn_ready (rs := [8]) (by kernel_rfl) (by simp) ?_
                        refine AllReadyIn.cons rfl (fun K hK => ?_) ?_
                        · go_simp; refine ⟨trivial, ?_⟩
                          refine hK _ _ ?_
                          clear hK K
                          refine wpAnyIn_ready (rs := [9]) (by kernel_rfl) (by simp) ?_
                          refine AllReadyIn.cons rfl (fun K hK => ?_) ?_
                          · go_simp; try refine ⟨fun _ h => (by cases h), ?_⟩
                            refine hK _ _ ?_
                            clear hK K
                            refine wpAnyIn_ready (rs := [10]) (by kernel_rfl) (by simp) ?_
                            refine AllReadyIn.cons rfl (fun K hK => ?_) ?_
                            · go_simp
                              refine hK _ _ ?_
                              clear hK K
                              refine wpAnyIn_ready (rs := [11]) (by kernel_rfl) (by simp) ?_
                              refine AllReadyIn.cons rfl (fun K hK => ?_) ?_
                              · go_simp
                                refine hK _ _ ?_
                                clear hK K
                                refine wpAnyIn_done (by kernel_rfl) ?_ _
                                exact HF.out _ _ _ _ _ _ _ _ _ _ _ _ _ _ _ _ _ _ _ _ _ _ _ _ _ _ _ _ _ _ _ false _ (hide' ⟨h2.out.1, .inr ⟨rfl, h2.out.2⟩⟩)
                              exact AllReadyIn.nil
                            exact AllReadyIn.nil
                          exact AllReadyIn.nil
                        exact AllReadyIn.nil
                      exact AllReadyIn.nil
                    refine AllReadyIn.cons rfl (fun K hK => ?_) ?_
                    · go_simp
                      refine hK _ _ ?_
                      clear hK K
                      refine wpAnyIn_ready (rs := [5, 8]) (by kernel_rfl) (by simp) ?_
                      refine AllReadyIn.cons rfl (fun K hK => ?_) ?_
                      · go_simp
                        refine hK _ _ ?_
                        clear hK K
                        refine wpAnyIn_ready (rs := [8]) (by kernel_rfl) (by simp) ?_
                        refine AllReadyIn.cons rfl (fun K hK => ?_) ?_
                        · go_simp; refine ⟨trivial, ?_⟩
                          refine hK _ _ ?_
                          clear hK K
                          refine wpAnyIn_ready (rs := [9]) (by kernel_rfl) (by simp) ?_
                          refine AllReadyIn.cons rfl (fun K hK => ?_) ?_
                          · go_simp; try refine ⟨fun _ h => (by cases h), ?_⟩
                            refine hK _ _ ?_
                            clear hK K
                            refine wpAnyIn_ready (rs := [10]) (by kernel_rfl) (by simp) ?_
                            refine AllReadyIn.cons rfl (fun K hK => ?_) ?_
                            · go_simp
                              refine hK _ _ ?_
                              clear hK K
                              refine wpAnyIn_ready (rs := [11]) (by kernel_rfl) (by simp) ?_
                              refine AllReadyIn.cons rfl (fun K hK => ?_) ?_
                              · go_simp
                                refine hK _ _ ?_
                                clear hK K
                                refine wpAnyIn_done (by kernel_rfl) ?_ _
                                exact HF.out _ _ _ _ _ _ _ _ _ _ _ _ _ _ _ _ _ _ _ _ _ _ _ _ _ _ _ _ _ _ _ false _ (hide' ⟨h2.out.1, .inr ⟨rfl, h2.out.2⟩⟩)
                              exact AllReadyIn.nil
                            exact AllReadyIn.nil
                          exact AllReadyIn.nil
                        exact AllReadyIn.nil
                      refine AllReadyIn.cons rfl (fun K hK => ?_) ?_
                      · go_simp; refine ⟨trivial, ?_⟩
                        refine hK _ _ ?_
                        clear hK K
                        refine wpAnyIn_ready (rs := [5]) (by kernel_rfl) (by simp) ?_
                        refine AllReadyIn.cons rfl (fun K hK => ?_) ?_
                        · go_simp
                          refine hK _ _ ?_
                          clear hK K
                          refine wpAnyIn_ready (rs := [9]) (by kernel_rfl) (by simp) ?_
                          refine AllReadyIn.cons rfl (fun K hK => ?_) ?_
                          · go_simp; try refine ⟨fun _ h => (by cases h), ?_⟩
                            refine hK _ _ ?_
                            clear hK K
                            refine wpAnyIn_ready (rs := [10]) (by kernel_rfl) (by simp) ?_
                            refine AllReadyIn.cons rfl (fun K hK => ?_) ?_
                            · go_simp
                              refine hK _ _ ?_
                              clear hK K
                              refine wpAnyIn_ready (rs := [11]) (by kernel_rfl) (by simp) ?_
                              refine AllReadyIn.cons rfl (fun K hK => ?_) ?_
                              · go_simp
                                refine hK _ _ ?_
                                clear hK K
                                refine wpAnyIn_done (by kernel_rfl) ?_ _
                                exact HF.out _ _ _ _ _ _ _ _ _ _ _ _ _ _ _ _ _ _ _ _ _ _ _ _ _ _ _ _ _ _ _ false _ (hide' ⟨h2.out.1, .inr ⟨rfl, h2.out.2⟩⟩)
                              exact AllReadyIn.nil
                            exact AllReadyIn.nil
                          exact AllReadyIn.nil
                        exact AllReadyIn.nil
                      exact AllReadyIn.nil
                    exact AllReadyIn.nil
                  refine AllReadyIn.cons rfl (fun K hK => ?_) ?_
                  · go_simp
                    refine hK _ _ ?_
                    clear hK K
                    refine wpAnyIn_ready (rs := [5, 6]) (by kernel_rfl) (by simp) ?_
                    refine AllReadyIn.cons rfl (fun K hK => ?_) ?_
                    · go_simp
                      refine hK _ _ ?_
                      clear hK K
                      refine wpAnyIn_ready (rs := [6]) (by kernel_rfl) (by simp) ?_
                      refine AllReadyIn.cons rfl (fun K hK => ?_) ?_
                      · go_simp
                        refine hK _ _ ?_
                        clear hK K
                        refine wpAnyIn_ready (rs := [8]) (by kernel_rfl) (by simp) ?_
                        refine AllReadyIn.cons rfl (fun K hK => ?_) ?_
                        · go_simp; refine ⟨trivial, ?_⟩
                          refine hK _ _ ?_
                          clear hK K
                          refine wpAnyIn_ready (rs := [9]) (by kernel_rfl) (by simp) ?_
                          refine AllReadyIn.cons rfl (fun K hK => ?_) ?_
                          · go_simp; try refine ⟨fun _ h => (by cases h), ?_⟩
                            refine hK _ _ ?_
                            clear hK K
                            refine wpAnyIn_ready (rs := [10]) (by kernel_rfl) (by simp) ?_
                            refine AllReadyIn.cons rfl (fun K hK => ?_) ?_
                            · go_simp
                              refine hK _ _ ?_
                              clear hK K
                              refine wpAnyIn_ready (rs := [11]) (by kernel_rfl) (by simp) ?_
                              refine AllReadyIn.cons rfl (fun K hK => ?_) ?_
                              · go_simp
                                refine hK _ _ ?_
                                clear hK K
                                refine wpAnyIn_done (by kernel_rfl) ?_ _
                                exact HF.out _ _ _ _ _ _ _ _ _ _ _ _ _ _ _ _ _ _ _ _ _ _ _ _ _ _ _ _ _ _ _ false _ (hide' ⟨h2.out.1, .inr ⟨rfl, h2.out.2⟩⟩)
                              exact AllReadyIn.nil
                            exact AllReadyIn.nil
                          exact AllReadyIn.nil
                        exact AllReadyIn.nil
                      exact AllReadyIn.nil
                    refine AllReadyIn.cons rfl (fun K hK => ?_) ?_
                    · go_simp
                      refine hK _ _ ?_
                      clear hK K
                      refine wpAnyIn_ready (rs := [5, 8]) (by kernel_rfl) (by simp) ?_
                      refine AllReadyIn.cons rfl (fun K hK => ?_) ?_
                      · go_simp
                        refine hK _ _ ?_
                        clear hK K
                        refine wpAnyIn_ready (rs := [8]) (by kernel_rfl) (by simp) ?_
                        refine AllReadyIn.cons rfl (fun K hK => ?_) ?_
                        · go_simp; refine ⟨trivial, ?_⟩
                          refine hK _ _ ?_
                          clear hK K
                          refine wpAnyIn_ready (rs := [9]) (by kernel_rfl) (by simp) ?_
                          refine AllReadyIn.cons rfl (fun K hK => ?_) ?_
                          · go_simp; try refine ⟨fun _ h => (by cases h), ?_⟩
                            refine hK _ _ ?_
                            clear hK K
                            refine wpAnyIn_ready (rs := [10]) (by kernel_rfl) (by simp) ?_
                            refine AllReadyIn.cons rfl (fun K hK => ?_) ?_
                            · go_simp
                              refine hK _ _ ?_
                              clear hK K
                              refine wpAnyIn_ready (rs := [11]) (by kernel_rfl) (by simp) ?_
                              refine AllReadyIn.cons rfl (fun K hK => ?_) ?_
                              · go_simp
                                refine hK _ _ ?_
                                clear hK K
                                refine wpAnyIn_done (by kernel_rfl) ?_ _
                                exact HF.out _ _ _ _ _ _ _ _ _ _ _ _ _ _ _ _ _ _ _ _ _ _ _ _ _ _ _ _ _ _ _ false _ (hide' ⟨h2.out.1, .inr ⟨rfl, h2.out.2⟩⟩)
                              exact AllReadyIn.nil
                            exact AllReadyIn.nil
                          exact AllReadyIn.nil
                        exact AllReadyIn.nil
                      refine AllReadyIn.cons rfl (fun K hK => ?_) ?_
                      · go_simp; refine ⟨trivial, ?_⟩
                        refine hK _ _ ?_
                        clear hK K
                        refine wpAnyIn_ready (rs := [5]) (by kernel_rfl) (by simp) ?_
                        refine AllReadyIn.cons rfl (fun K hK => ?_) ?_
                        · go_simp
                          refine hK _ _ ?_
                          clear hK K
                          refine wpAnyIn_ready (rs := [9]) (by kernel_rfl) (by simp) ?_
                          refine AllReadyIn.cons rfl (fun K hK => ?_) ?_
                          · go_simp; try refine ⟨fun _ h => (by cases h), ?_⟩
                            refine hK _ _ ?_
                            clear hK K
                            refine wpAnyIn_ready (rs := [10]) (by kernel_rfl) (by simp) ?_
                            refine AllReadyIn.cons rfl (fun K hK => ?_) ?_
                            · go_simp
                              refine hK _ _ ?_
                              clear hK K
                              refine wpAnyIn_ready (rs := [11]) (by kernel_rfl) (by simp) ?_
                              refine AllReadyIn.cons rfl (fun K hK => ?_) ?_
                              · go_simp
                                refine hK _ _ ?_
                                clear hK K
                                refine wpAnyIn_done (by kernel_rfl) ?_ _
                                exact HF.out _ _ _ _ _ _ _ _ _ _ _ _ _ _ _ _ _ _ _ _ _ _ _ _ _ _ _ _ _ _ _ false _ (hide' ⟨h2.out.1, .inr ⟨rfl, h2.out.2⟩⟩)
                              exact AllReadyIn.nil
                            exact AllReadyIn.nil
                          exact AllReadyIn.nil
                        exact AllReadyIn.nil
                      exact AllReadyIn.nil
                    exact AllReadyIn.nil
                  exact AllReadyIn.nil
                exact AllReadyIn.nil
              exact AllReadyIn.nil
          exact AllReadyIn.nil
        exact AllReadyIn.nil
      exact AllReadyIn.nil
    case done =>
      rintro D ys V hD rfl ⟨h1, h2⟩ hK
      gi_wp2
      refine ⟨by simp, .inl ⟨_, _, rfl, run_takeDeferred hK, ?_⟩⟩
      exact ⟨_, results_none rfl _ _ _, ⟨_, rfl⟩, .inl ⟨_, rfl, hJ.putObj _ h1 (by omega) hK rfl⟩⟩
    case stop =>
      rintro D c pre V hD hp ⟨rfl, q, hq, h1⟩ hK
      gi_wp2
      refine ⟨by simp, .inl ⟨_, _, rfl, run_takeDeferred hK, ?_⟩⟩
      exact ⟨_, results_none rfl _ _ _, ⟨_, rfl⟩, .inr ⟨q, hq.trans (flat_prefix j hp), hJx.putObj _ h1 (by omega) hK rfl⟩⟩
  have hl2 := hide' hlow
  have ho2 := hide' honly
  have HK := hide' key
  have hBY : Bn < Y.heap.size := by omega
  have A1 : Below Y.heap.size Y Y.drew := (Below.refl _ Y).drew
  have A2 : Below Y.heap.size Y (Y.drew.alloc (.cells #[.int .u64 0] 26)) := A1.alloc (Nat.le_refl _) _
  clear key hK hS hY hJ hJx h0 hmin hrest hx' hpv hp hlow honly hx hn hYs bB ht hc h3 bY hBn
  gi_region_with_o (first | (refine ⟨trivial, fun h => absurd h (by decide), ?_⟩; gi_at_call 24; refine (callsIn_wide.2 (hl2.out _ (by first | exact tY.over A1 | exact tY.over A2))).mono ?_; rintro e w1 ⟨rfl, hb1⟩; have B1 : Below Y.heap.size Y w1 := (by first | exact A1.trans (hb1.mono A1.size) | exact A2.trans (hb1.mono A2.size)); have cS1 := (B1.cell (p := ⟨Bn, 0, none⟩) hBY).trans cY; have cS1a := fun o => cell_al cS1 o; try (have q1 : Boxed w1 Y.heap.size 26 (.int .u64 0) := (hb1.block _ (by simp)).trans (Boxed.new Y.drew 26 (.int .u64 0)))) | (refine ⟨trivial, fun h => absurd h (by decide), ?_⟩; gi_at_call 33; refine (callsIn_wide.2 (ho2.out _)).mono ?_; rintro e w2 ⟨rfl, hb2⟩; have B2 : Below Y.heap.size Y w2 := (by first | exact B1.trans (hb2.mono B1.size) | exact (B1.alloc B1.size _).trans (hb2.mono (B1.alloc B1.size _).size)); try (first | (have q2 : Boxed w2 Y.heap.size 26 (.int .u64 0) := (hb2.block _ q1.lt).trans q1; have cq := q2.cell; have fq := q2.frozen) | (have q2 : Boxed w2 w1.heap.size 26 (.int .u64 0) := (hb2.block _ (by simp)).trans (Boxed.new w1 26 (.int .u64 0)); have cq := q2.cell; have fq := q2.frozen))))
  all_goals first
    | exact HK.out _ _ (Nat.le_refl _) (q2.set _) (B2.setCell (p := ⟨Y.heap.size, 0, none⟩) (Nat.le_refl _) _)
    | exact HK.out _ _ B1.size (q2.set _) (B2.setCell (p := ⟨w1.heap.size, 0, none⟩) B1.size _)
    | exact HK.out _ _ B2.size (Boxed.new w2 _ _) (B2.alloc B2.size _)
end Go.Proofs.YtajfafckhipgeaaDoor
