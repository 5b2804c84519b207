/- Choose's iterator: one number more. -/
import Derived.Test.YtmoiedlchcceaaaDoorJ04
namespace Go.Proofs.YtmoiedlchcceaaaDoor
open Go.RowKit Go.Shelf
attribute [local go_sem] Oper.semAt_some
theorem chooseSeq (s k : Int) (w : World) :
    Calls Tryd.prog 37 #[.agg #[.int .u64 s], .int .i64 k] w fun e w' => ∃ kb sb, e = .returned (.func (.func 55) #[] #[.pointer (some ⟨kb, 0, none⟩), .pointer (some ⟨sb, 0, none⟩)]) ∧ Boxed w' sb 60 (.int .u64 s) ∧ Boxed w' kb 3 (.int .i64 k) ∧ w.heap.size ≤ sb ∧ w.heap.size ≤ kb ∧ Below w.heap.size w w' :=
  (choose64 s k w).mono fun _ _ ⟨h1, h2⟩ => ⟨_, _, h1, by
    subst h2
    exact ⟨(Boxed.new _ _ _).alloc _, by have := Boxed.new (w.alloc (.cells #[.int .u64 s] 60)) 3 (.int .i64 k); rwa [World.size_alloc] at this, Nat.le_refl _, by omega, ((Below.refl _ _).alloc (Nat.le_refl _) _).alloc (by simp) _⟩⟩
theorem without_rest {s : Nat} (hs : s < 18446744073709551616) (h0 : 0 < pop64 s) (w : World) : Calls Tryd.prog 48 #[.agg #[.int .u64 s], .int .i64 (lowI (nums s))] w fun e w' => e = .returned (.agg #[.int .u64 (restX s : Nat)]) ∧ Below w.heap.size w w' := by
  obtain ⟨h1, h2⟩ := rest_low h0
  obtain ⟨i, hi⟩ := Int.eq_ofNat_of_zero_le h1
  have h3 : s &&& (18446744073709551615 - 2 ^ (lowI (nums s)).toNat) = restX s := rfl
  rw [hi] at h2 h3 ⊢
  exact withoutT64 s hs i (by omega) _ _ (shl64 i (by omega)) (Nat.lt_of_lt_of_le (Nat.pow_lt_pow_right (by decide) (show i < 64 by omega)) (by decide)) (by simpa using h3) w
theorem keptOwn {A B : Nat} {V : World} (h : V.heap.size ≤ B) : OwnFrom (β := Unit) B (fun _ X => Kept A V X) := fun _ Y Z row k hg hr =>
  ⟨Nat.le_trans k.1 hg.size, fun i hA hi => (hg.block i (Nat.lt_of_lt_of_le hi k.1) (fun e => by have := (hr i e.symm).1; omega)).trans (k.2 i hA hi)⟩
theorem kpbOwn {b B : Nat} {V : World} (h1 : b < B) (h3 : 1 ≤ B) : OwnFrom (β := Unit) B (fun _ X => KpB b V X ∧ B ≤ X.heap.size) := fun _ Y Z _ k hg hr =>
  have hb : Below B Y Z := (Below.refl _ Y).grown hg k.2 fun r e => (hr r e).1
  ⟨⟨(hb.cell (p := ⟨b, 0, none⟩) h1).trans k.1.1, fun t => (k.1.2 t).below h3 hb⟩, Nat.le_trans k.2 hg.size⟩
set_option maxRecDepth 100000 in
set_option maxHeartbeats 4000000 in
theorem choose_step (k s n kb sb : Nat) (w : World) (hs : Hid (s < 18446744073709551616)) (hkp : k + 1 ≤ pop64 s) (hkb : kb < w.heap.size) (hsb : sb < w.heap.size) (ht : Tab w) (hk : w.cell? ⟨kb, 0, none⟩ = some (.int .i64 ((k + 1 : Nat) : Int))) (hc : w.cell? ⟨sb, 0, none⟩ = some (.int .u64 (s : Int)))
    (IH : ∀ (n kb sb : Nat) (w : World), kb < w.heap.size → sb < w.heap.size → Tab w → w.cell? ⟨kb, 0, none⟩ = some (.int .i64 (k : Int)) → w.cell? ⟨sb, 0, none⟩ = some (.int .u64 (restX s : Nat)) → SeqL n Tryd.prog 55 #[.pointer (some ⟨kb, 0, none⟩), .pointer (some ⟨sb, 0, none⟩)] encT (KpB sb) (chF k (restX s)) w) :
    SeqL n Tryd.prog 55 #[.pointer (some ⟨kb, 0, none⟩), .pointer (some ⟨sb, 0, none⟩)] encT (KpB sb) (chF (k + 1) s) w := fun l J Jx W hW hJ hJx hY h0 => by
  replace hk := (hW.cell (p := ⟨kb, 0, none⟩) hkb).trans hk
  replace hc := (hW.cell (p := ⟨sb, 0, none⟩) hsb).trans hc
  replace ht := ht.over hW
  replace hkb := cell_lt hk
  replace hsb := cell_lt hc
  clear hW
  have h3 := ht.2
  have hB0 : Below W.heap.size W (W.alloc (.cells #[.func (.yield l) #[] #[]] 94)) := (Below.refl _ W).alloc (Nat.le_refl _) _
  have bY := Boxed.new W 94 (.func (.yield l) #[] #[])
  have KL : Hid (∀ X, Calls Tryd.prog 39 #[.agg #[.int .u64 (s : Int)]] X fun e w' => e = .returned (.int .i64 (pop64 s : Nat)) ∧ Below X.heap.size X w') := fun X => by
    have := len64 s hs.out X
    exact this
  have KW : Hid (∀ X, Calls Tryd.prog 48 #[.agg #[.int .u64 (s : Int)], .int .i64 (lowI (nums s))] X fun e w' => e = .returned (.agg #[.int .u64 (restX s : Nat)]) ∧ Below X.heap.size X w') := fun X => without_rest hs.out (by omega) X
  have KM : Hid (∀ X, Below W.heap.size W X → Calls Tryd.prog 45 #[.agg #[.int .u64 (s : Int)]] X fun e w' => e = .returned (.int .i64 (lowI (nums s))) ∧ Below X.heap.size X w') := fun X hX => low64 s hs.out X (ht.over hX)
  have hz1 : ¬ (((k + 1 : Nat) : Int) = 0) := by omega
  have hz0 : ¬ (((k + 1 : Nat) : Int) < 0) := by omega
  have hzq : ¬ (((pop64 s : Nat) : Int) < ((k + 1 : Nat) : Int)) := by omega
  have hp8 := pop64_le s
  have hsub : IntKind.i64.wrap (((k + 1 : Nat) : Int) - 1) = (k : Int) := by rw [IntKind.wrap_i64]; omega
  generalize hze : ((k + 1 : Nat) : Int) = z at *
  clear hze
  generalize pop64 s = q at *
  generalize lowI (nums s) = lw at *
  refine callsIn_of_wp_marks Tryd.func55 rfl trivial ?_ rfl
  simp only [Tryd.ntmps55, List.size_toArray, List.length_cons, List.length_nil, Nat.reduceAdd, Nat.reduceSub, Array.replicate_succ, Array.replicate_zero, List.push_toArray, List.append_toArray, List.nil_append, List.cons_append]
  refine wpIn_wide.2 ?_
  go_wp2
  generalize hW0 : W.alloc (.cells #[.func (.yield l) #[] #[]] 94) = W0 at *
  have hs0 : W0.heap.size = W.heap.size + 1 := by rw [← hW0]; simp
  clear hW0
  have k0 := (hB0.cell (p := ⟨kb, 0, none⟩) hkb).trans hk
  have c0 := (hB0.cell (p := ⟨sb, 0, none⟩) hsb).trans hc
  have hS0 : Hid (W0.drew.cell? ⟨kb, 0, none⟩ = some (.int .i64 z) ∧ W0.drew.cell? ⟨sb, 0, none⟩ = some (.int .u64 (s : Int)) ∧ Below W0.heap.size W0 W0.drew) := ⟨k0, c0, (Below.refl _ _).drew⟩
  have hzd : decide (z < 0) = false := by simpa using hz0
  go_region_held3 (fun X => X.cell? ⟨kb, 0, none⟩ = some (.int .i64 z) ∧ X.cell? ⟨sb, 0, none⟩ = some (.int .u64 (s : Int)) ∧ Below W0.heap.size W0 X) (first | assumption | (exact keep2b (by assumption) hb) | (exact hS0.out)) (first | (go_at_call 39; refine (KL.out _).mono ?_; rintro e w1 ⟨rfl, hb⟩))
  have hB1 : Below W0.heap.size W0 w1 := ‹_ ∧ _ ∧ Below W0.heap.size W0 w1›.2.2
  have k1 : w1.cell? ⟨kb, 0, none⟩ = some (.int .i64 z) := ‹_ ∧ _ ∧ Below W0.heap.size W0 w1›.1
  have c1 : w1.cell? ⟨sb, 0, none⟩ = some (.int .u64 (s : Int)) := ‹_ ∧ _ ∧ Below W0.heap.size W0 w1›.2.1
  have hq1 : decide ((q : Int) < z) = false := by simpa using hzq
  have hBW1 := hB0.trans (hB1.mono hB0.size)
  have bY1 := bxb8 bY hB1
  have hz01 : (z == 0) = false := by simpa using hz1
  have hS1 : Hid (w1.drew.cell? ⟨kb, 0, none⟩ = some (.int .i64 z) ∧ w1.drew.cell? ⟨sb, 0, none⟩ = some (.int .u64 (s : Int)) ∧ Below w1.heap.size w1 w1.drew) := ⟨k1, c1, (Below.refl _ _).drew⟩
  have KM' : Hid (∀ X, Below w1.heap.size w1 X → Calls Tryd.prog 45 #[.agg #[.int .u64 (s : Int)]] X fun e w' => e = .returned (.int .i64 lw) ∧ Below X.heap.size X w') := fun X hX => KM.out X (hBW1.trans (hX.mono hBW1.size))
  clear KL KM hS0 hk hc k0 c0
  go_wp2
  go_region_held3 (fun X => X.cell? ⟨kb, 0, none⟩ = some (.int .i64 z) ∧ X.cell? ⟨sb, 0, none⟩ = some (.int .u64 (s : Int)) ∧ Below w1.heap.size w1 X) (first | assumption | (exact keep2b (by assumption) hb) | (exact hS1.out)) (first | (go_at_call 45; refine (KM'.out _ (by first | exact ‹_ ∧ _ ∧ Below w1.heap.size w1 _›.2.2 | exact (Below.refl _ _).drew)).mono ?_; rintro e w2 ⟨rfl, hb⟩) | (go_at_call 48; refine (KW.out _).mono ?_; rintro e w2 ⟨rfl, hb⟩) | (go_at_call 37; refine (chooseSeq _ _ _).mono ?_; rintro e w2 ⟨kb', sb', rfl, bS, bK, hsb', hkb', hb⟩; have hq2 : w1.heap.size ≤ sb' ∧ w1.heap.size ≤ kb' := ⟨Nat.le_trans (Below.size ‹_ ∧ _ ∧ Below w1.heap.size w1 _›.2.2) hsb', Nat.le_trans (Below.size ‹_ ∧ _ ∧ Below w1.heap.size w1 _›.2.2) hkb'⟩))
  have hB2 : Below w1.heap.size w1 w2 := ‹_ ∧ _ ∧ Below w1.heap.size w1 w2›.2.2
  have c2 : w2.cell? ⟨sb, 0, none⟩ = some (.int .u64 (s : Int)) := ‹_ ∧ _ ∧ Below w1.heap.size w1 w2›.2.1
  have hBW2 := hBW1.trans (hB2.mono hBW1.size)
  have bY2 := bxb8 bY1 hB2
  have zS := bS.lt
  have zK := bK.lt
  have zz1 := hBW1.size
  clear KW KM' hS1
  go_wp2
  refine (wpIn_wide (n := n)).1 ?_
  have t2 := ht.over hBW2
  have hJ2 : J [] w2 := hJ _ _ _ none h0 (grown_none hBW2) (fun r e => by cases e)
  have hG : Gc l sb s W.heap.size w2.heap.size w2 := ⟨Nat.le_refl _, c2, t2, bY2⟩
  have hgo : OwnFrom (β := Unit) w2.heap.size (fun _ V => Gc l sb s W.heap.size w2.heap.size V) := Gc.own (by omega) (by omega) (by omega)
  have hup : ∀ {I : List Nat → World → Prop}, OwnFrom W.heap.size I → OwnFrom w2.heap.size I := fun h s Y Z row hI hg hr => h _ Y Z row hI hg fun r e => ⟨by have := (hr r e).1; omega, (hr r e).2⟩
  refine rangeR (gf := 55) (lb := #[.pointer (some ⟨kb', 0, none⟩), .pointer (some ⟨sb', 0, none⟩)]) rfl (enters_of Tryd.func55 (by kernel_rfl) rfl)
    (IH (n - 1) kb' sb' w2 zK zS t2 bK.cell bS.cell) KpB.t (KpB.b zS (by omega)) (fun _ => rfl)
    (fun pre V => J (pre.flatMap (stepC s)) V ∧ Gc l sb s W.heap.size w2.heap.size V) (fun c pre V => c = .ret ∧ ∃ q, q <+: pre.flatMap (stepC s) ∧ Jx q V)
    (fun s Y Z row h hg hr => ⟨hup hJ _ Y Z row h.1 hg hr, hgo () Y Z row h.2 hg hr⟩) (fun c s Y Z row h hg hr => ⟨h.1, h.2.elim fun q hq => ⟨q, hq.1, hup hJx q Y Z row hq.2 hg hr⟩⟩) ⟨hJ2, hG⟩
    (fun t a' V => ∃ b, w2.heap.size ≤ b ∧ a' = { tmps := #[.func (.yield l) #[] #[], .pointer (some ⟨kb, 0, none⟩), .pointer (some ⟨sb, 0, none⟩), .pointer (some ⟨W.heap.size, 0, none⟩), .pointer (some ⟨b, 0, none⟩), undef, .int .i64 z, .bool false, .bool false, .int .i64 z, .agg #[.int .u64 (s : Int)], .int .i64 (q : Int), .bool false, .bool false, .int .i64 z, .bool false, undef, undef, undef, .agg #[.int .u64 (s : Int)], .agg #[.int .u64 (s : Int)], .int .i64 lw, .agg #[.int .u64 (restX s : Nat)], .int .i64 z, .int .i64 (k : Int), .func (.func 55) #[] #[.pointer (some ⟨kb', 0, none⟩), .pointer (some ⟨sb', 0, none⟩)], .agg #[.int .u64 (t : Int)], undef, undef, undef, undef, undef, undef, undef, undef, undef, undef, undef, undef, undef], defers := [] } ∧ Boxed V b 60 (.int .u64 (t : Int)))
    (fun t a' _ Y Z row h hg hr => h.elim fun b hb => ⟨b, hb.1, hb.2.1, (hg.block b hb.2.2.lt (fun e => by obtain ⟨_, o, ho, hc⟩ := hr b e.symm; rw [show Y.heap[b]? = _ from hb.2.2] at ho; cases ho; cases hc)).trans hb.2.2⟩)
    (fun h k => KpB.of_below k (by omega) (by omega)) ?assign ?body ?done ?stop
  case assign =>
    intro l' t V K' hz hK'
    have e1 : encT t = #[.agg #[.int .u64 (t : Int)]] := rfl
    rw [e1]
    gi_wp2
    exact hK' _ _ ((Below.refl _ V).alloc (Nat.le_refl _) _) ⟨V.heap.size, hz, rfl, Boxed.new V _ _⟩
  case body =>
    rintro l' pre t a' V hz rfl ⟨r0, hr0⟩ ⟨hJv, hGv⟩ ⟨tb, htb, rfl, bT⟩ hpre
    have hmx : Tryd.prog.follows Departure.mixedOrders = true := by kernel_rfl
    have ht8 : Hid (t < 18446744073709551616) := by
      obtain ⟨r1, h1⟩ := hpre
      exact chF_lt k (restX s) t (by rw [← h1]; simp)
    have zV := hGv.sz
    have zT := bT.lt
    have cs := hGv.cs
    have cT := bT.cell
    have KA : Hid (∀ X, Below V.heap.size V X → Calls Tryd.prog 56 #[.agg #[.int .u64 (s : Int)], .agg #[.int .u64 (t : Int)]] X fun e w' => e = .returned (.agg #[.int .u64 (aheadX s t : Nat)]) ∧ Below X.heap.size X w') := fun X hX => ahead64 s t hs.out ht8.out X (hGv.tb.over hX)
    have hah : Hid (aheadX s t < 18446744073709551616) := aheadX_lt hs.out
    have hpi : Hid (∀ (p2 : List (Fin 64)) (j : Fin 64), p2 ++ [j] <+: nums (aheadX s t) → (pre.flatMap (stepC s) ++ p2.map (fun j => t ||| 2 ^ j.val)) ++ [t ||| 2 ^ j.val] <+: chF (k + 1) s ∧ j.val < 64) := fun p2 j h => ⟨pre_inner hs.out hpre h, mem64 hah.out (by obtain ⟨r2, h2⟩ := h; rw [← h2]; simp)⟩
    have hend : Hid (pre.flatMap (stepC s) ++ (nums (aheadX s t)).map (fun j => t ||| 2 ^ j.val) = (pre ++ [t]).flatMap (stepC s)) := by show _ = _; simp [stepC]
    have hprf : Hid (∀ p2 : List (Fin 64), p2 <+: nums (aheadX s t) → pre.flatMap (stepC s) ++ p2.map (fun j => t ||| 2 ^ j.val) <+: (pre ++ [t]).flatMap (stepC s)) := fun p2 ⟨r2, h2⟩ => ⟨r2.map (fun j => t ||| 2 ^ j.val), by rw [← hend.out, ← h2]; simp⟩
    generalize aheadX s t = ax at *
    gi_wp2_with (first | (refine ⟨trivial, fun h => absurd h (by decide), ?_⟩; gi_at_call 56; refine (CallsIn.inRound _ (callsIn_wide.2 (KA.out _ (Below.refl _ _)))).mono ?_; rintro e w3 ⟨rfl, hb3⟩) | (refine ⟨trivial, fun h => absurd h (by decide), ?_⟩; gi_at_call 24; refine (CallsIn.inRound _ (callsIn_wide.2 (all64 _ _))).mono ?_; rintro e w4 ⟨rfl, rfl⟩))
    have hB3 : Below V.heap.size V (w3.alloc (.cells #[.int .u64 (ax : Int)] 60)) := hb3.alloc hb3.size _
    have bA := Boxed.new w3 60 (.int .u64 (ax : Int))
    have z3 := hb3.size
    have hsz : (w3.alloc (.cells #[.int .u64 (ax : Int)] 60)).heap.size = w3.heap.size + 1 := by simp
    generalize w3.alloc (.cells #[.int .u64 (ax : Int)] 60) = X0 at *
    generalize w3.heap.size = ab at *
    have hG0 : Gc l sb s W.heap.size w2.heap.size X0 := hGv.below hB3 (by omega) (by omega) (by omega)
    have hJ0 : J (pre.flatMap (stepC s) ++ ([] : List (Fin 64)).map (fun j => t ||| 2 ^ j.val)) X0 := by
      rw [List.map_nil, List.append_nil]
      exact hJ _ _ _ none hJv (grown_none hB3) (fun r e => by cases e)
    have hl0 : X0.heap[w2.heap.size + 1]? = some (.loop r0) := (hB3.block _ (Array.getElem?_eq_some_iff.1 hr0).1).trans hr0
    have hup2 : ∀ {I : List Nat → World → Prop}, OwnFrom W.heap.size I → OwnFrom X0.heap.size I := fun h s Y Z row hI hg hr => h _ Y Z row hI hg fun r e => ⟨by have := (hr r e).1; omega, (hr r e).2⟩
    clear KA hb3 bY bY1 bY2 hB0 hB1 hB2 hBW1 hBW2 k1 c1 c2 hpre hr0 hJv
    refine rangeI hl0 (gf := 44) (lb := #[.pointer (some ⟨ab, 0, none⟩)]) rfl (enters_of Tryd.func44 (by kernel_rfl) rfl)
      (all_seqL (n - 1 - 1 - 1) ab ax hah.out X0 (by omega) hG0.tb bA.cell) KpB.t (KpB.b (by omega) (by omega)) (fun _ => rfl)
      (fun p2 X => J (pre.flatMap (stepC s) ++ p2.map (fun j => t ||| 2 ^ j.val)) X ∧ Gc l sb s W.heap.size w2.heap.size X ∧ Boxed X tb 60 (.int .u64 (t : Int)) ∧ Boxed X ab 60 (.int .u64 (ax : Int)) ∧ Kept W.heap.size V X ∧ KpB sb' V X ∧ X0.heap.size ≤ X.heap.size)
      (fun c p2 X => c = .ret ∧ Kept W.heap.size V X ∧ ∃ q, q <+: (pre ++ [t]).flatMap (stepC s) ∧ Jx q X)
      (fun p2 Y Z row h hg hr => ⟨hup2 hJ _ Y Z row h.1 hg hr, hgo () Y Z row h.2.1 hg fun r e => ⟨by have := (hr r e).1; omega, (hr r e).2⟩, (hg.block tb h.2.2.1.lt (fun e => by have := (hr tb e.symm).1; omega)).trans h.2.2.1, (hg.block ab h.2.2.2.1.lt (fun e => by have := (hr ab e.symm).1; omega)).trans h.2.2.2.1, keptOwn (by omega) () Y Z row h.2.2.2.2.1 hg hr, kpbOwn (by omega) (by omega) () Y Z row h.2.2.2.2.2 hg hr⟩)
      (fun c p2 Y Z row h hg hr => ⟨h.1, keptOwn (by omega) () Y Z row h.2.1 hg hr, h.2.2.elim fun q hq => ⟨q, hq.1, hup2 hJx q Y Z row hq.2 hg hr⟩⟩)
      ⟨hJ0, hG0, bxb8 bT hB3, bA, Kept.below hB3, KpB.of_below hB3 (by omega) (by omega), Nat.le_refl _⟩
      (fun j a' X => a' = { tmps := #[.func (.yield l) #[] #[], .pointer (some ⟨kb, 0, none⟩), .pointer (some ⟨sb, 0, none⟩), .pointer (some ⟨W.heap.size, 0, none⟩), .pointer (some ⟨tb, 0, none⟩), .int .i64 (j.val : Int), .int .i64 z, .bool false, .bool false, .int .i64 z, .agg #[.int .u64 (s : Int)], .int .i64 (q : Int), .bool false, .bool false, .int .i64 z, .bool false, undef, undef, undef, .agg #[.int .u64 (s : Int)], .agg #[.int .u64 (s : Int)], .int .i64 lw, .agg #[.int .u64 (restX s : Nat)], .int .i64 z, .int .i64 (k : Int), .func (.func 55) #[] #[.pointer (some ⟨kb', 0, none⟩), .pointer (some ⟨sb', 0, none⟩)], .agg #[.int .u64 (t : Int)], .agg #[.int .u64 (s : Int)], .agg #[.int .u64 (t : Int)], .agg #[.int .u64 (ax : Int)], .func (.func 44) #[] #[.pointer (some ⟨ab, 0, none⟩)], .int .i64 (j.val : Int), undef, undef, undef, undef, undef, undef, undef, undef], defers := [] })
      (fun j a' _ Y Z row h hg hr => h)
      (fun h k => KpB.of_below k (by omega) (by omega)) ?assign2 ?body2 ?done2 ?stop2
    case assign2 =>
      intro l2 j X K' hz' hK'
      gi_wp2
      exact hK' _ _ (Below.refl _ _) rfl
    case body2 =>
      rintro l2 p2 j a2 X hzX ⟨hJX, hGX, bTX, bAX, hKX, hPX, hsX⟩ rfl hpre2
      obtain ⟨hpx, hj8⟩ := hpi.out p2 j hpre2
      have hXs := hGX.sz
      have zAX := bAX.lt
      have zTX := bTX.lt
      have HY : Hid (∀ X', Below X.heap.size X X' → YieldAt (Fence.wide.inRound l2) (n - 1 - 1 - 1 - 1 - 1) Tryd.prog l #[.agg #[.int .u64 ((t ||| 2 ^ j.val : Nat) : Int)]] X' fun e X'' => ∃ b2, e = .returned (.bool b2) ∧ Hid (Kept W.heap.size X X'' ∧ ((b2 = true ∧ (J (pre.flatMap (stepC s) ++ (p2 ++ [j]).map (fun j => t ||| 2 ^ j.val)) X'' ∧ Gc l sb s W.heap.size w2.heap.size X'' ∧ Boxed X'' tb 60 (.int .u64 (t : Int)) ∧ Boxed X'' ab 60 (.int .u64 (ax : Int)) ∧ Kept W.heap.size V X'' ∧ KpB sb' V X'' ∧ X0.heap.size ≤ X''.heap.size) ∧ KpB ab X X'') ∨ (b2 = false ∧ Kept W.heap.size V X'' ∧ ∃ q, q <+: (pre ++ [t]).flatMap (stepC s) ∧ Jx q X'')))) := fun X' hX' => by
        have hk1 : Kept W.heap.size X X' := Kept.below hX'
        have hG1 : Gc l sb s W.heap.size w2.heap.size X' := hGX.below hX' (by omega) (by omega) (by omega)
        refine yieldAny (YieldAt.mono (hY _ (t ||| 2 ^ j.val) X' (hJ _ _ _ none hJX (grown_none hX') (fun r e => by cases e)) hpx) ?_) l2
        rintro e X'' (⟨rfl, i1, i2, i4⟩ | ⟨rfl, i1, i4⟩)
        · have hk2 := hk1.trans i4
          have kb2 : ∀ b, W.heap.size ≤ b → b < X.heap.size → KpB b X X'' := fun b h1 h2 => ((KpB.of_below hX' h2 (by omega)).t (i2.of_kept i4 h1 (by have := hX'.size; omega)))
          refine ⟨true, rfl, hk2, .inl ⟨rfl, ⟨?_, hG1.round i2 i4 (Nat.le_refl _), (hk2.2 tb (by omega) zTX).trans bTX, (hk2.2 ab (by omega) zAX).trans bAX, hKX.trans hk2, hPX.t (kb2 sb' (by omega) (by omega)), Nat.le_trans hsX hk2.1⟩, kb2 ab (by omega) zAX⟩⟩
          rw [List.map_append, ← List.append_assoc]
          exact i1
        · refine ⟨false, rfl, hk1.trans i4, .inr ⟨rfl, hKX.trans (hk1.trans i4), _, ?_, i1⟩⟩
          have := hprf.out (p2 ++ [j]) hpre2
          rwa [List.map_append, ← List.append_assoc] at this
      have hpw : (2 ^ j.val : Nat) < 18446744073709551616 := Nat.lt_of_lt_of_le (Nat.pow_lt_pow_right (by decide) hj8) (by decide)
      have KY : Hid (∀ Y, Calls Tryd.prog 57 #[.agg #[.int .u64 (s : Int)], .int .i64 (j.val : Int)] Y fun e w' => e = .returned (.agg #[.int .u64 ((2 ^ j.val : Nat) : Int)]) ∧ Below Y.heap.size Y w') := fun Y => only64 s j.val hj8 _ (shl64 j.val hj8) Y
      have KO := hideW (or64 t (2 ^ j.val) ht8.out hpw)
      clear hpw
      have cy := hGX.by_.cell
      have ct := bTX.cell
      have cs2 := hGX.cs
      have hcells : Hid (∀ Y, Below X.heap.size X Y → Y.cell? ⟨W.heap.size, 0, none⟩ = some (.func (.yield l) #[] #[]) ∧ Y.cell? ⟨tb, 0, none⟩ = some (.int .u64 (t : Int)) ∧ Y.cell? ⟨sb, 0, none⟩ = some (.int .u64 (s : Int))) := fun Y hYb => ⟨(hYb.cell (p := ⟨W.heap.size, 0, none⟩) (cell_lt cy)).trans cy, (hYb.cell (p := ⟨tb, 0, none⟩) (cell_lt ct)).trans ct, (hYb.cell (p := ⟨sb, 0, none⟩) (cell_lt cs2)).trans cs2⟩
      clear hY hJ hJx hpi hend hprf IH h0 hJ2 hG hgo hup hJ0 hG0 hup2 hl0 hB3 bA bT hGv hJX hGX bTX bAX hKX hPX hpre2 hpx t2 cs cT ht
      generalize (t ||| 2 ^ j.val : Nat) = tx at *
      generalize (2 ^ j.val : Nat) = pw at *
      generalize (j.val : Int) = jz at *
      gi_wp2
      gi_region_with_o (first | (refine ⟨trivial, fun h => absurd h (by decide), ?_⟩; gi_at_call 57; refine (CallsIn.inRound _ (callsIn_wide.2 (KY.out _))).mono ?_; rintro e w5 ⟨rfl, hb5⟩; have hB5 : Below X.heap.size X w5 := ((Below.refl _ X).drew).trans hb5; obtain ⟨cy5, ct5, cs5⟩ := hcells.out _ hB5) | (refine ⟨trivial, fun h => absurd h (by decide), ?_⟩; gi_at_call 26; refine (CallsIn.inRound _ (callsIn_wide.2 (KO.out _))).mono ?_; rintro e w6 ⟨rfl, hb6⟩; have hB6 : Below X.heap.size X w6 := hB5.trans (hb6.mono hB5.size); obtain ⟨cy6, ct6, cs6⟩ := hcells.out _ hB6; obtain ⟨fn1, tmps1, assign1, body1, hy1, hR1⟩ := HY.out w6 hB6) | (refine ⟨fun h => absurd h (by decide), hR1.mono ?_⟩; rintro e X2 ⟨b2, rfl, h2⟩))
      all_goals
        obtain ⟨hq, ⟨rfl, h5, h6⟩ | ⟨rfl, h5⟩⟩ := h2.out
        · gi_wp2
          exact ⟨hq.from (by omega), h6, ⟨h5.1, h5.2.1, h5.2.2.1, h5.2.2.2.1, h5.2.2.2.2.1, h5.2.2.2.2.2.1, by have := h5.2.2.2.2.2.2; omega⟩, hq.mono (by omega)⟩
        · obtain ⟨h7, q', hq', hj'⟩ := h5
          gi_wp2
          exact ⟨hq.from (by omega), ⟨rfl, h7, q', by first | exact hq' | simpa using hq', hj'⟩, hq.mono (by omega)⟩
    case done2 =>
      rintro X ⟨h1, h2, h4, h5, h6, h7, h8⟩
      rw [hend.out] at h1
      gi_wp2
      exact ⟨h6.from (by omega), h7, ⟨h1, h2⟩, h6.mono (by omega)⟩
    case stop2 =>
      rintro c p2 X hp2 ⟨rfl, h1, h2⟩
      gi_wp2
      exact ⟨h1.from (by omega), ⟨rfl, h2⟩, h1.mono (by omega)⟩
  case done =>
    rintro D V hD ⟨h1, h2⟩ hK
    gi_wp2
    refine ⟨by simp, .inl ⟨_, _, rfl, run_takeDeferred hK, ?_⟩⟩
    exact ⟨_, results_none rfl _ _ _, ⟨_, rfl⟩, .inl (by rw [chF_step hs.out]; exact hJ.putObj _ h1 (by omega) hK rfl)⟩
  case stop =>
    rintro D c pre V hD hp ⟨rfl, q, hq, h1⟩ hK
    gi_wp2
    refine ⟨by simp, .inl ⟨_, _, rfl, run_takeDeferred hK, ?_⟩⟩
    exact ⟨_, results_none rfl _ _ _, ⟨_, rfl⟩, .inr ⟨q, by rw [chF_step hs.out]; exact hq.trans (flat_pre hp), hJx.putObj _ h1 (by omega) hK rfl⟩⟩
end Go.Proofs.YtmoiedlchcceaaaDoor
