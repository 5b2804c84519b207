/- BitsChoose answers true. -/
import Derived.Test.YtjmpkiopnkldmaaDoorChLawM
import Derived.Test.YtjmpkiopnkldmaaDoorCh3
import Derived.Test.YtjmpkiopnkldmaaDoorChRef
import Derived.Test.YtjmpkiopnkldmaaDoorBridge
import Derived.Deep.RegionHeld3
namespace Go.Proofs.YtjmpkiopnkldmaaDoor
open Go.RowKit Go.Shelf
attribute [local go_sem] Oper.semAt_some
theorem eql_fn_c (lb : Array Value) (w : World) : (binOp .eql 29 (.func (.func 9) #[] lb) .nilFunc).run Tryd.prog w = .ok (.bool false) w := by
  kernel_rfl
theorem choose_z (z : Int) (s n kb sb : Nat) (w : World) (hs : s < 256) (hkb : kb < w.heap.size) (hsb : sb < w.heap.size) (ht : Tab w) (hk : w.cell? ⟨kb, 0, none⟩ = some (.int .i64 z)) (hc : w.cell? ⟨sb, 0, none⟩ = some (.int .u8 (s : Int))) :
    SeqL n Tryd.prog 9 #[.pointer (some ⟨kb, 0, none⟩), .pointer (some ⟨sb, 0, none⟩)] encT (KpB sb) (chZ z s) w := by
  unfold chZ
  by_cases h : 0 ≤ z ∧ z ≤ (pop8 s : Int)
  · rw [if_pos h]
    obtain ⟨k, rfl⟩ := Int.eq_ofNat_of_zero_le h.1
    exact choose_seq k s n kb sb w hs (by omega) hkb hsb ht hk hc
  · rw [if_neg h]
    exact choose_none z s n kb sb w hs (by omega) hkb hsb hk hc
/-- Only one block changes. -/
structure Oz (ba : Nat) (V X : World) : Prop where
  low : Below ba V X
  up : ∀ i, ba < i → i < V.heap.size → X.heap[i]? = V.heap[i]?
theorem Oz.of_below {ba : Nat} {V X : World} (h : Below V.heap.size V X) (hb : ba ≤ V.heap.size) : Oz ba V X := ⟨h.mono hb, fun i _ hi => h.block i hi⟩
theorem Oz.trans {ba : Nat} {A B C : World} (h : Oz ba A B) (k : Oz ba B C) : Oz ba A C :=
  ⟨h.low.trans k.low, fun b h1 h2 => (k.up b h1 (Nat.lt_of_lt_of_le h2 h.low.size)).trans (h.up b h1 h2)⟩
theorem Oz.set {ba : Nat} (V : World) (u : Value) : Oz ba V (V.setCell ⟨ba, 0, none⟩ u) :=
  ⟨(Below.refl ba V).setCell (p := ⟨ba, 0, none⟩) (Nat.le_refl _) u, fun i h1 _ => Below.heap_setCell _ _ _ _ (by show i ≠ ba; omega)⟩
theorem Oz.box {ba b : Nat} {V X : World} {t : TypeId} {v : Value} (h : Oz ba V X) (hb : Boxed V b t v) (hne : b ≠ ba) : Boxed X b t v := by
  rcases Nat.lt_or_ge b ba with h1 | h1
  · exact (h.low.block b h1).trans hb
  · exact (h.up b (by omega) hb.lt).trans hb
def numA (ba : Nat) (W : World) : Int := match W.cell? ⟨ba, 0, none⟩ with
  | some (.int _ z) => z
  | _ => 0
theorem numA_of {ba : Nat} {W : World} {t : TypeId} {z : Int} (h : Boxed W ba t (.int .i64 z)) : numA ba W = z := by unfold numA; rw [h.cell]
/-- What stands between two rounds. -/
structure CI (w : World) (b : Nat) (K : Int) (bk ba B a : Nat) (X : World) : Prop where
  rr : Boxed X (w.heap.size + 1) 4 (.bool false)
  bb : Boxed X (w.heap.size + 1 + 1) 5 (.int .u8 (b : Int))
  kk : Boxed X bk 3 (.int .i64 K)
  aa : Boxed X ba 3 (.int .i64 (a : Int))
  fr : Below w.heap.size w X
  sz : B ≤ X.heap.size
theorem CI.own {w : World} {b : Nat} {K : Int} {bk ba B a : Nat} (h1 : w.heap.size + 1 + 1 < B) (h2 : bk < B) (h3 : ba < B) : OwnFrom (β := Unit) B (fun _ X => CI w b K bk ba B a X) := fun _ Y Z row h hg hr =>
  have nb : ∀ i, i < B → i < Y.heap.size → Z.heap[i]? = Y.heap[i]? := fun i hi hy => hg.block i hy (fun e => by have := (hr i e.symm).1; omega)
  ⟨(nb _ (by omega) h.rr.lt).trans h.rr, (nb _ h1 h.bb.lt).trans h.bb, (nb _ h2 h.kk.lt).trans h.kk, (nb _ h3 h.aa.lt).trans h.aa, h.fr.grown hg h.fr.size (fun r e => by have := (hr r e).1; omega), Nat.le_trans h.sz hg.size⟩
theorem CI.oz {w : World} {b : Nat} {K : Int} {bk ba B a a' : Nat} {V X : World} (h : CI w b K bk ba B a V) (k : Oz ba V X) (h1 : w.heap.size + 1 + 1 < bk) (h2 : bk < ba) (hx : Boxed X ba 3 (.int .i64 (a' : Int))) : CI w b K bk ba B a' X :=
  ⟨k.box h.rr (by omega), k.box h.bb (by omega), k.box h.kk (by omega), hx, h.fr.trans (k.low.mono (by omega)), Nat.le_trans h.sz k.low.size⟩
theorem Oz.ends {ba B sb : Nat} {V X : World} (k : Oz ba V X) (ha : ba < B) (hs : sb < ba) (h3 : 1 ≤ ba) : KeepsFrom B V X ∧ KpB sb V X ∧ Kept (B + 2) V X :=
  ⟨⟨k.low.size, fun i o hB hi _ => (k.up i (by omega) (Array.getElem?_eq_some_iff.1 hi).1).trans hi⟩, ⟨k.low.cell (p := ⟨sb, 0, none⟩) hs, fun t => t.below h3 k.low⟩, k.low.size, fun i hB hi => k.up i (by omega) hi⟩
theorem keep3c {wr Y Z : World} {b0 b1 b2 : Nat} {u0 u1 u2 : Value} (h : Y.cell? ⟨b0, 0, none⟩ = some u0 ∧ Y.cell? ⟨b1, 0, none⟩ = some u1 ∧ Y.cell? ⟨b2, 0, none⟩ = some u2 ∧ Below wr.heap.size wr Y) (hb : Below Y.heap.size Y Z) :
    Z.cell? ⟨b0, 0, none⟩ = some u0 ∧ Z.cell? ⟨b1, 0, none⟩ = some u1 ∧ Z.cell? ⟨b2, 0, none⟩ = some u2 ∧ Below wr.heap.size wr Z :=
  ⟨(hb.cell (p := ⟨b0, 0, none⟩) (cell_lt h.1)).trans h.1, (hb.cell (p := ⟨b1, 0, none⟩) (cell_lt h.2.1)).trans h.2.1, (hb.cell (p := ⟨b2, 0, none⟩) (cell_lt h.2.2.1)).trans h.2.2.1, h.2.2.2.trans (hb.mono h.2.2.2.size)⟩
set_option maxRecDepth 100000 in
set_option maxHeartbeats 4000000 in
theorem bitsChoose_walk (A B : Nat) (I K : Int) (_hA : A < 18446744073709551616) (w : World) (ht : Tab w) :
    CallsIn Fence.wide 9 Tryd.prog 3 #[.agg #[.int .u64 A, .int .u64 B, .int .i64 I, .int .i64 K]] w fun e w' => e = .returned (.bool true) ∧ Below w.heap.size w w' := by
  have hG := ht.2
  have hmx : Tryd.prog.follows Departure.mixedOrders = true := by kernel_rfl
  have hnil := eql_fn_c
  obtain ⟨b, hb, hbl⟩ : ∃ b : Nat, (A : Int) % 256 = (b : Int) ∧ b < 256 := ⟨A % 256, by omega, by omega⟩
  refine callsIn_of_wp_marks Tryd.func3 rfl trivial ?_ rfl
  simp only [Tryd.ntmps3, List.size_toArray, List.length_cons, List.length_nil, Nat.reduceAdd, Nat.reduceSub, Array.replicate_succ, Array.replicate_zero, List.push_toArray, List.append_toArray, List.nil_append, List.cons_append]
  refine wpIn_wide.2 ?_
  go_wp2_with fail
  refine (of8 _ _ _).mono ?_
  rintro e w1 ⟨rfl, hb1⟩
  have s1 : w.heap.size + 4 ≤ w1.heap.size := by have := hb1.size; simp at this; omega
  have x0 : w1.heap[w.heap.size]? = some (.cells #[.int .u64 A, .int .u64 B, .int .i64 I, .int .i64 K] 24 (0, 0)) := (hb1.block _ (by first | (simp; done) | (simp; omega))).trans ((Below.heap_alloc _ _ _ (by first | (simp; done) | (simp; omega))).trans ((Below.heap_alloc _ _ _ (by first | (simp; done) | (simp; omega))).trans ((Below.heap_alloc _ _ _ (by first | (simp; done) | (simp; omega))).trans (World.alloc_heap_new _ _))))
  have x1 : Boxed w1 (w.heap.size + 1) 4 (.bool false) := (hb1.block _ (by first | (simp; done) | (simp; omega))).trans ((Below.heap_alloc _ _ _ (by first | (simp; done) | (simp; omega))).trans ((Below.heap_alloc _ _ _ (by first | (simp; done) | (simp; omega))).trans (by have := Boxed.new (w.alloc (.cells #[.int .u64 A, .int .u64 B, .int .i64 I, .int .i64 K] 24)) 4 (.bool false); rw [World.size_alloc] at this; exact this)))
  have x2 : Boxed w1 (w.heap.size + 1 + 1) 5 (.int .u8 (b : Int)) := (hb1.block _ (by first | (simp; done) | (simp; omega))).trans ((Below.heap_alloc _ _ _ (by first | (simp; done) | (simp; omega))).trans (by have := Boxed.new ((w.alloc (.cells #[.int .u64 A, .int .u64 B, .int .i64 I, .int .i64 K] 24)).alloc (.cells #[.bool false] 4)) 5 (.int .u8 (b : Int)); rw [World.size_alloc, World.size_alloc] at this; exact this))
  have b1 : Below w.heap.size w w1 := (((((Below.refl _ w).alloc (Nat.le_refl _) _).alloc (by first | (simp; done) | (simp; omega)) _).alloc (by first | (simp; done) | (simp; omega)) _).alloc (by first | (simp; done) | (simp; omega)) _).trans (hb1.mono (by first | (simp; done) | (simp; omega)))
  clear hb1
  have cK : w1.cell? ⟨w.heap.size, 3, none⟩ = some (.int .i64 K) := by simp [World.cell?, x0]
  have cK' := fun o => (Below.cell (p := ⟨w.heap.size, 3, none⟩) (B := w1.heap.size) ((Below.refl _ w1).alloc (Nat.le_refl _) o) (show w.heap.size < w1.heap.size by omega)).trans cK
  have bS := (Boxed.new w1 26 (.int .u8 (b : Int))).alloc (.cells #[.int .i64 K] 3)
  have bKk := Boxed.new (w1.alloc (.cells #[.int .u8 (b : Int)] 26)) 3 (.int .i64 K)
  rw [World.size_alloc] at bKk
  have hB2 : Below w1.heap.size w1 ((w1.alloc (.cells #[.int .u8 (b : Int)] 26)).alloc (.cells #[.int .i64 K] 3)) := ((Below.refl _ _).alloc (Nat.le_refl _) _).alloc (by simp) _
  go_wp2_with fail
  refine (chooseSeq _ _ _).mono ?_
  rintro e w2 ⟨kb', sb', rfl, bS', bK', hsb', hkb', hb2⟩
  have hz2 : w1.heap.size + 2 ≤ w2.heap.size := by have := hb2.size; simp at this; omega
  have hsb2 : w1.heap.size + 2 ≤ sb' := by simp at hsb'; omega
  have y1 := bxb8 (bxb8 x1 hB2) hb2
  have y2 := bxb8 (bxb8 x2 hB2) hb2
  have yk := bxb8 bKk hb2
  have hBw2 : Below w.heap.size w w2 := b1.trans ((hB2.trans (hb2.mono hB2.size)).mono b1.size)
  clear cK cK' x0 x1 x2 bS bKk hB2 hb2 hkb' hsb' b1
  have hwk : w.heap.size + 1 + 1 < w1.heap.size + 1 := by omega
  have hka : w1.heap.size + 1 < w2.heap.size := by omega
  generalize w1.heap.size + 1 = bk at *
  go_wp2
  have bA := Boxed.new w2 3 (.int .i64 0)
  have hB3 : Below w2.heap.size w2 (w2.alloc (.cells #[.int .i64 0] 3)) := (Below.refl _ _).alloc (Nat.le_refl _) _
  have zS := bS'.lt
  have zK := bK'.lt
  have zk := yk.lt
  have sz3 : (w2.alloc (.cells #[.int .i64 0] 3)).heap.size = w2.heap.size + 1 := by simp
  have y1' := bxb8 y1 hB3
  have y2' := bxb8 y2 hB3
  have yk' := bxb8 yk hB3
  have bS3 := bxb8 bS' hB3
  have bK3 := bxb8 bK' hB3
  have hBw3 := hBw2.trans (hB3.mono hBw2.size)
  generalize w2.alloc (.cells #[.int .i64 0] 3) = W0 at *
  generalize w2.heap.size = ba at *
  clear hnil hBw2 y1 y2 yk bS' bK' hB3
  refine (wpIn_wide (n := 9)).1 ?_
  obtain ⟨hmeet, hlast⟩ := chZ_meets K hbl
  have hmeet' := hideW hmeet
  have hlast' := hideW hlast
  clear hmeet hlast
  have t0 := ht.over hBw3
  refine rangeR (gf := 9) (lb := #[.pointer (some ⟨kb', 0, none⟩), .pointer (some ⟨sb', 0, none⟩)]) rfl (enters_of Tryd.func9 (by kernel_rfl) rfl)
    (choose_z K b 8 kb' sb' W0 hbl bK3.lt bS3.lt t0 bK3.cell bS3.cell) KpB.t (KpB.b bS3.lt (by omega)) (fun _ => rfl)
    (fun pre V => CI w b K bk ba W0.heap.size (atL 0 pre) V) (fun _ _ _ => False)
    (fun pre Y Z row h hg hr => CI.own (by omega) (by omega) (by omega) () Y Z row h hg hr) (fun _ _ _ _ _ h _ _ => h) ⟨y1', y2', yk', bA, hBw3, Nat.le_refl _⟩
    (fun t a' V => ∃ tb, W0.heap.size ≤ tb ∧ a' = { tmps := #[.agg #[.int .u64 (A : Int), .int .u64 (B : Int), .int .i64 I, .int .i64 K], .pointer (some ⟨w.heap.size, 0, none⟩), .pointer (some ⟨w.heap.size + 1, 0, none⟩), .pointer (some ⟨w.heap.size + 1 + 1, 0, none⟩), .pointer (some ⟨w.heap.size + 1 + 1 + 1, 0, none⟩), .pointer (some ⟨w1.heap.size, 0, none⟩), .pointer (some ⟨bk, 0, none⟩), Value.func (Fn.func 9) #[] #[.pointer (some ⟨kb', 0, none⟩), .pointer (some ⟨sb', 0, none⟩)], .pointer (some ⟨ba, 0, none⟩), .pointer (some ⟨tb, 0, none⟩), undef, .pointer (some ⟨w.heap.size, 0, none⟩), .int .u64 (A : Int), .int .u8 (b : Int), .agg #[.int .u8 0], .int .u8 (b : Int), .agg #[.int .u8 (b : Int)], .pointer (some ⟨w.heap.size, 3, none⟩), .int .i64 K, .agg #[.int .u8 (b : Int)], .int .i64 K, Value.func (Fn.func 9) #[] #[.pointer (some ⟨kb', 0, none⟩), .pointer (some ⟨sb', 0, none⟩)], Value.func (Fn.func 9) #[] #[.pointer (some ⟨kb', 0, none⟩), .pointer (some ⟨sb', 0, none⟩)], .bool false, Value.func (Fn.func 9) #[] #[.pointer (some ⟨kb', 0, none⟩), .pointer (some ⟨sb', 0, none⟩)], .agg #[.int .u8 (t : Int)], undef, undef, undef, undef, undef, undef, undef, undef, undef, undef, undef, undef, undef, undef, undef, undef, undef, undef, undef, undef, undef, undef, undef, undef, undef, undef, undef, undef, undef, undef, undef, undef, undef, undef, undef, undef, undef, undef, undef, undef, undef, undef, undef, undef, undef, undef, undef, undef, undef, undef, undef, undef, undef, undef, undef, undef, undef, undef, undef], defers := [] } ∧ Boxed V tb 26 (.int .u8 (t : Int)))
    (fun t a' _ Y Z row h hg hr => h.elim fun c hc => ⟨c, hc.1, hc.2.1, (hg.block c hc.2.2.lt (fun e => by obtain ⟨_, o, ho, hc'⟩ := hr c e.symm; rw [show Y.heap[c]? = _ from hc.2.2] at ho; cases ho; cases hc')).trans hc.2.2⟩)
    (fun h k => KpB.of_below k (by omega) (by omega)) ?assign ?body ?done ?stop
  case assign =>
    intro l' t V K' hz hK'
    have e1 : encT t = #[.agg #[.int .u8 (t : Int)]] := rfl
    rw [e1]
    gi_wp2
    exact hK' _ _ ((Below.refl _ V).alloc (Nat.le_refl _) _) ⟨V.heap.size, hz, rfl, Boxed.new V _ _⟩
  case body =>
    rintro l' pre t a' V hz rfl _ hCI ⟨tb, htb, rfl, bT⟩ hpre
    obtain ⟨m1, m2, m3, m4⟩ := hmeet'.out pre t hpre
    have hsnoc := hideW (atL_snoc pre 0 t)
    have cT := bT.cell
    have zV := hCI.sz
    have hgoal : Hid (∀ X, Oz ba V X → Boxed X ba 3 (.int .i64 ((t + 1 : Nat) : Int)) → KeepsFrom W0.heap.size V X ∧ KpB sb' V X ∧ CI w b K bk ba W0.heap.size (atL 0 (pre ++ [t])) X ∧ Kept (W0.heap.size + 2) V X) := fun X hX hx => by
      have h := hX.ends (B := W0.heap.size) (sb := sb') (by omega) (by omega) (by omega)
      exact ⟨h.1, h.2.1, by rw [hsnoc.out]; exact hCI.oz hX (by omega) (by omega) hx, h.2.2⟩
    generalize hst : atL 0 pre = a0 at *
    clear hst hpre hmeet' hlast' hsnoc
    gi_wp2_with (first | (refine ⟨trivial, ?_⟩; gi_at_call 6; refine (CallsIn.inRound _ (callsIn_wide.2 (word8 _ _))).mono ?_; rintro e w3 ⟨rfl, hb3⟩))
    have hO3 : Oz ba V w3 := Oz.of_below hb3 (by omega)
    have hC3 : CI w b K bk ba W0.heap.size a0 w3 := hCI.oz hO3 (by omega) (by omega) (bxb8 hCI.aa hb3)
    clear hb3 cT bT htb
    gi_loopw [48] (fun _ X => ∃ a : Nat, a0 ≤ a ∧ a ≤ t ∧ Hid (CI w b K bk ba W0.heap.size a X) ∧ Hid (Oz ba V X)) (fun _ X => ((t : Int) - numA ba X).toNat)
    case atStart => exact ⟨a0, Nat.le_refl _, m1, hC3, hO3⟩
    case round =>
      obtain ⟨a, ha0, hat, hC, hO⟩ := hrel
      have ca := hC.out.aa.cell
      have fa := hC.out.aa.frozen
      have cb := hC.out.bb.cell
      have ck := hC.out.kk.cell
      have ha8 : a < 256 := by omega
      have hw8 : IntKind.u8.wrap (a : Int) = (a : Int) := by simp [IntKind.wrap, IntKind.bits, IntKind.signed]; omega
      have hw64 : IntKind.u64.wrap (a : Int) = (a : Int) := by rw [IntKind.wrap_u64]; omega
      have hand := u8_andNot_nat a b ha8 hbl
      have KR : Hid (∀ Y, Calls Tryd.prog 7 #[.int .u64 (a : Int)] Y fun e w' => e = .returned (.int .i64 ((pop8 a : Nat) : Int)) ∧ Below Y.heap.size Y w') := fun Y => by
        have := refLen a (by omega) Y
        rwa [show (nums a).length = pop8 a from nums_pop ⟨a, ha8⟩] at this
      have hnum := numA_of hC.out.aa
      have hwa : IntKind.i64.wrap ((a : Int) + 1) = ((a + 1 : Nat) : Int) := by rw [IntKind.wrap_i64]; omega
      by_cases hlt : a < t
      · have hok := m4 a ha0 hlt
        have hlt' : (a : Int) < (t : Int) := by omega
        have hnext : Hid (∀ Y, Below wr.heap.size wr Y → (∃ a' : Nat, a0 ≤ a' ∧ a' ≤ t ∧ Hid (CI w b K bk ba W0.heap.size a' (Y.setCell ⟨ba, 0, none⟩ (.int .i64 ((a + 1 : Nat) : Int)))) ∧ Hid (Oz ba V (Y.setCell ⟨ba, 0, none⟩ (.int .i64 ((a + 1 : Nat) : Int))))) ∧ ((t : Int) - numA ba (Y.setCell ⟨ba, 0, none⟩ (.int .i64 ((a + 1 : Nat) : Int)))).toNat < ((t : Int) - numA ba wr).toNat) := fun Y hY => by
          have bY := bxb8 hC.out.aa hY
          have bY2 := bY.set (.int .i64 ((a + 1 : Nat) : Int))
          have hOY : Oz ba wr (Y.setCell ⟨ba, 0, none⟩ (.int .i64 ((a + 1 : Nat) : Int))) := (Oz.of_below hY (by have := hC.out.sz; omega)).trans (Oz.set _ _)
          refine ⟨⟨a + 1, by omega, by omega, hC.out.oz hOY (by omega) (by omega) bY2, hO.out.trans hOY⟩, ?_⟩
          rw [numA_of bY2, hnum]
          omega
        unfold okZ at hok
        cases hsub : (a &&& (255 - b) == 0) with
        | true =>
          rw [hsub] at hok
          have hne : ¬ ((pop8 a : Nat) : Int) = K := by simpa using hok
          have h0 : a &&& (255 - b) = 0 := by simpa using hsub
          rw [h0] at hand
          have hne' : (((pop8 a : Nat) : Int) == K) = false := by simpa using hne
          clear hok hsub h0 hne hgoal m4 m3
          generalize pop8 a = pa at *
          gi_wp2
          refine region_round (fun Y => Y.cell? ⟨ba, 0, none⟩ = some (.int .i64 (a : Int)) ∧ Y.cell? ⟨w.heap.size + 1 + 1, 0, none⟩ = some (.int .u8 (b : Int)) ∧ Y.cell? ⟨bk, 0, none⟩ = some (.int .i64 K) ∧ Below wr.heap.size wr Y) hmx (noDefer_of (by kernel_rfl)) ?_ (fun hHeld => ?_)
          · first | exact ⟨ca, cb, ck, (Below.refl _ _).drew⟩ | exact ⟨ca, cb, ck, ((Below.refl _ _).drew).drew⟩
          refine wpAnyH_take (i := 0) (oi := { dst := some 29, op := Op.load 3 (Operand.tmp 8), type := 3, pos := "law.go:208", after := #[], guard := none }) (v := ?_) rfl (by kernel_rfl) (by kernel_rfl) (by kernel_rfl) (fun _ _ _ h => h) (Or.inl ⟨by rfl, ?_⟩) (by assumption) ?_
          rotate_left
          · intro w hSw; (try dsimp only at hSw); go_simp <;> with_reducible rfl
          simp only [Act.put, List.setIfInBounds_toArray, List.set_cons_zero, List.set_cons_succ]
          refine wpAnyH_take (i := 1) (oi := { dst := some 30, op := Op.move (Operand.tmp 10), type := 3, pos := "law.go:208", after := #[], guard := none }) (v := ?_) rfl (by kernel_rfl) (by kernel_rfl) (by kernel_rfl) (fun _ _ _ h => h) (Or.inl ⟨by rfl, ?_⟩) (by assumption) ?_
          rotate_left
          · intro w hSw; (try dsimp only at hSw); go_simp <;> with_reducible rfl
          simp only [Act.put, List.setIfInBounds_toArray, List.set_cons_zero, List.set_cons_succ]
          refine wpAnyH_take (i := 2) (oi := { dst := some 31, op := Op.binOp BinOp.lss 3 (Operand.tmp 29) (Operand.tmp 30) 3, type := 4, pos := "law.go:208", after := #[{ on := 0, ground := Ground.data }, { on := 1, ground := Ground.data }], guard := none }) (v := ?_) rfl (by kernel_rfl) (by kernel_rfl) (by kernel_rfl) (fun _ _ _ h => h) (Or.inl ⟨by rfl, ?_⟩) (by assumption) ?_
          rotate_left
          · intro w hSw; (try dsimp only at hSw); go_simp <;> with_reducible rfl
          simp only [Act.put, List.setIfInBounds_toArray, List.set_cons_zero, List.set_cons_succ]
          refine wpAnyH_take (i := 3) (oi := { dst := some 32, op := Op.move (Operand.tmp 31), type := 4, pos := "law.go:208", after := #[{ on := 2, ground := Ground.data }], guard := none }) (v := ?_) rfl (by kernel_rfl) (by kernel_rfl) (by kernel_rfl) (fun _ _ _ h => h) (Or.inl ⟨by rfl, ?_⟩) (by assumption) ?_
          rotate_left
          · intro w hSw; (try dsimp only at hSw); go_simp <;> with_reducible rfl
          simp only [Act.put, List.setIfInBounds_toArray, List.set_cons_zero, List.set_cons_succ]
          refine wpAnyH_take (i := 4) (oi := { dst := some 33, op := Op.load 3 (Operand.tmp 8), type := 3, pos := "law.go:208", after := #[{ on := 3, ground := Ground.guard }], guard := some (3, true) }) (v := ?_) rfl (by kernel_rfl) (by kernel_rfl) (by kernel_rfl) (fun _ _ _ h => h) (Or.inl ⟨by rfl, ?_⟩) (by assumption) ?_
          rotate_left
          · intro w hSw; (try dsimp only at hSw); go_simp <;> with_reducible rfl
          simp only [Act.put, List.setIfInBounds_toArray, List.set_cons_zero, List.set_cons_succ]
          refine wpAnyH_take (i := 5) (oi := { dst := some 34, op := Op.convert 3 5 (Operand.tmp 33), type := 5, pos := "law.go:208", after := #[{ on := 4, ground := Ground.data }, { on := 3, ground := Ground.guard }], guard := some (3, true) }) (v := ?_) rfl (by kernel_rfl) (by kernel_rfl) (by kernel_rfl) (fun _ _ _ h => h) (Or.inl ⟨by rfl, ?_⟩) (by assumption) ?_
          rotate_left
          · intro w hSw; (try dsimp only at hSw); go_simp <;> with_reducible rfl
          simp only [Act.put, List.setIfInBounds_toArray, List.set_cons_zero, List.set_cons_succ]
          refine wpAnyH_take (i := 6) (oi := { dst := some 35, op := Op.load 5 (Operand.tmp 3), type := 5, pos := "law.go:208", after := #[{ on := 3, ground := Ground.guard }], guard := some (3, true) }) (v := ?_) rfl (by kernel_rfl) (by kernel_rfl) (by kernel_rfl) (fun _ _ _ h => h) (Or.inl ⟨by rfl, ?_⟩) (by assumption) ?_
          rotate_left
          · intro w hSw; (try dsimp only at hSw); go_simp <;> with_reducible rfl
          simp only [Act.put, List.setIfInBounds_toArray, List.set_cons_zero, List.set_cons_succ]
          refine wpAnyH_take (i := 7) (oi := { dst := some 36, op := Op.binOp BinOp.andNot 5 (Operand.tmp 34) (Operand.tmp 35) 5, type := 5, pos := "law.go:208", after := #[{ on := 5, ground := Ground.data }, { on := 6, ground := Ground.data }, { on := 3, ground := Ground.guard }], guard := some (3, true) }) (v := ?_) rfl (by kernel_rfl) (by kernel_rfl) (by kernel_rfl) (fun _ _ _ h => h) (Or.inl ⟨by rfl, ?_⟩) (by assumption) ?_
          rotate_left
          · intro w hSw; (try dsimp only at hSw); go_simp <;> with_reducible rfl
          simp only [Act.put, List.setIfInBounds_toArray, List.set_cons_zero, List.set_cons_succ]
          refine wpAnyH_take (i := 8) (oi := { dst := some 37, op := Op.binOp BinOp.eql 5 (Operand.tmp 36) (Operand.const (Value.int IntKind.u8 0)) 5, type := 4, pos := "law.go:208", after := #[{ on := 7, ground := Ground.data }, { on := 3, ground := Ground.guard }], guard := some (3, true) }) (v := ?_) rfl (by kernel_rfl) (by kernel_rfl) (by kernel_rfl) (fun _ _ _ h => h) (Or.inl ⟨by rfl, ?_⟩) (by assumption) ?_
          rotate_left
          · intro w hSw; (try dsimp only at hSw); go_simp <;> with_reducible rfl
          simp only [Act.put, List.setIfInBounds_toArray, List.set_cons_zero, List.set_cons_succ]
          refine wpAnyH_take (i := 9) (oi := { dst := some 38, op := Op.move (Operand.tmp 37), type := 4, pos := "law.go:208", after := #[{ on := 8, ground := Ground.data }, { on := 3, ground := Ground.chain }, { on := 3, ground := Ground.guard }], guard := some (3, true) }) (v := ?_) rfl (by kernel_rfl) (by kernel_rfl) (by kernel_rfl) (fun _ _ _ h => h) (Or.inl ⟨by rfl, ?_⟩) (by assumption) ?_
          rotate_left
          · intro w hSw; (try dsimp only at hSw); go_simp <;> with_reducible rfl
          simp only [Act.put, List.setIfInBounds_toArray, List.set_cons_zero, List.set_cons_succ]
          refine wpAnyH_take (i := 10) (oi := { dst := some 39, op := Op.load 3 (Operand.tmp 8), type := 3, pos := "law.go:208", after := #[{ on := 9, ground := Ground.guard }], guard := some (9, true) }) (v := ?_) rfl (by kernel_rfl) (by kernel_rfl) (by kernel_rfl) (fun _ _ _ h => h) (Or.inl ⟨by rfl, ?_⟩) (by assumption) ?_
          rotate_left
          · intro w hSw; (try dsimp only at hSw); go_simp <;> with_reducible rfl
          simp only [Act.put, List.setIfInBounds_toArray, List.set_cons_zero, List.set_cons_succ]
          refine wpAnyH_take (i := 11) (oi := { dst := some 40, op := Op.convert 3 22 (Operand.tmp 39), type := 22, pos := "law.go:208", after := #[{ on := 10, ground := Ground.data }, { on := 9, ground := Ground.guard }], guard := some (9, true) }) (v := ?_) rfl (by kernel_rfl) (by kernel_rfl) (by kernel_rfl) (fun _ _ _ h => h) (Or.inl ⟨by rfl, ?_⟩) (by assumption) ?_
          rotate_left
          · intro w hSw; (try dsimp only at hSw); go_simp <;> with_reducible rfl
          simp only [Act.put, List.setIfInBounds_toArray, List.set_cons_zero, List.set_cons_succ]
          refine wpAnyH_take (i := 13) (oi := { dst := some 42, op := Op.load 3 (Operand.tmp 6), type := 3, pos := "law.go:208", after := #[{ on := 9, ground := Ground.guard }], guard := some (9, true) }) (v := ?_) rfl (by kernel_rfl) (by kernel_rfl) (by kernel_rfl) (fun _ _ _ h => h) (Or.inl ⟨by rfl, ?_⟩) (by assumption) ?_
          rotate_left
          · intro w hSw; (try dsimp only at hSw); go_simp <;> with_reducible rfl
          simp only [Act.put, List.setIfInBounds_toArray, List.set_cons_zero, List.set_cons_succ]
          refine wpAnyH_ready (rs := [12]) (by kernel_rfl) (by simp) ?_
          refine AllReadyH.cons (o := { dst := some 41, op := Op.call { callee := Callee.value (Operand.func 7), args := #[Operand.tmp 40], argTypes := #[22] }, type := 3, pos := "law.go:208", after := #[{ on := 11, ground := Ground.data }, { on := 9, ground := Ground.chain }, { on := 9, ground := Ground.guard }], guard := some (9, true) }) rfl (fun K hK => ?_) AllReadyH.nil
          go_simp
          refine (KR.out _).mono ?_; rintro e w6 ⟨rfl, hb6⟩; (try dsimp only)
          refine hK.out _ _ ?_ (fun hHeld => ?_)
          · exact ⟨(hb6.cell (p := ⟨ba, 0, none⟩) (cell_lt hHeld.1)).trans hHeld.1, (hb6.cell (p := ⟨w.heap.size + 1 + 1, 0, none⟩) (cell_lt hHeld.2.1)).trans hHeld.2.1, (hb6.cell (p := ⟨bk, 0, none⟩) (cell_lt hHeld.2.2.1)).trans hHeld.2.2.1, hHeld.2.2.2.trans (hb6.mono hHeld.2.2.2.size)⟩
          clear hK K
          try simp only [Act.put, List.setIfInBounds_toArray, List.set_cons_zero, List.set_cons_succ]
          refine wpAnyH_take (i := 14) (oi := { dst := some 43, op := Op.binOp BinOp.eql 3 (Operand.tmp 41) (Operand.tmp 42) 3, type := 4, pos := "law.go:208", after := #[{ on := 12, ground := Ground.data }, { on := 13, ground := Ground.data }, { on := 9, ground := Ground.guard }], guard := some (9, true) }) (v := ?_) rfl (by kernel_rfl) (by kernel_rfl) (by kernel_rfl) (fun _ _ _ h => h) (Or.inl ⟨by rfl, ?_⟩) (by assumption) ?_
          rotate_left
          · intro w hSw; (try dsimp only at hSw); go_simp <;> with_reducible rfl
          simp only [Act.put, List.setIfInBounds_toArray, List.set_cons_zero, List.set_cons_succ]
          refine wpAnyH_take (i := 15) (oi := { dst := some 44, op := Op.pick (Operand.tmp 38) (Operand.tmp 43) (Operand.const (Value.bool false)), type := 4, pos := "law.go:208", after := #[{ on := 9, ground := Ground.data }, { on := 14, ground := Ground.data }, { on := 3, ground := Ground.guard }], guard := some (3, true) }) (v := ?_) rfl (by kernel_rfl) (by kernel_rfl) (by kernel_rfl) (fun _ _ _ h => h) (Or.inl ⟨by rfl, ?_⟩) (by assumption) ?_
          rotate_left
          · intro w hSw; (try dsimp only at hSw); go_simp <;> with_reducible rfl
          simp only [Act.put, List.setIfInBounds_toArray, List.set_cons_zero, List.set_cons_succ]
          refine wpAnyH_take (i := 16) (oi := { dst := some 45, op := Op.unOp UnOp.not 4 (Operand.tmp 44), type := 4, pos := "law.go:208", after := #[{ on := 15, ground := Ground.data }, { on := 3, ground := Ground.guard }], guard := some (3, true) }) (v := ?_) rfl (by kernel_rfl) (by kernel_rfl) (by kernel_rfl) (fun _ _ _ h => h) (Or.inl ⟨by rfl, ?_⟩) (by assumption) ?_
          rotate_left
          · intro w hSw; (try dsimp only at hSw); go_simp <;> with_reducible rfl
          simp only [Act.put, List.setIfInBounds_toArray, List.set_cons_zero, List.set_cons_succ]
          refine wpAnyH_take (i := 17) (oi := { dst := some 46, op := Op.pick (Operand.tmp 32) (Operand.tmp 45) (Operand.const (Value.bool false)), type := 4, pos := "law.go:208", after := #[{ on := 3, ground := Ground.data }, { on := 16, ground := Ground.data }], guard := none }) (v := ?_) rfl (by kernel_rfl) (by kernel_rfl) (by kernel_rfl) (fun _ _ _ h => h) (Or.inl ⟨by rfl, ?_⟩) (by assumption) ?_
          rotate_left
          · intro w hSw; (try dsimp only at hSw); go_simp <;> with_reducible rfl
          simp only [Act.put, List.setIfInBounds_toArray, List.set_cons_zero, List.set_cons_succ]
          refine wpAnyH_done (by kernel_rfl) ?_ _
          unfold onlyNormal
          have bY := bxb8 hC.out.aa hHeld.2.2.2
          have cY := bY.cell
          have fY := bY.frozen
          gi_wp2
          exact hnext.out _ hHeld.2.2.2
        | false =>
          have hz : (((a &&& (255 - b) : Nat) : Int) == 0) = false := by rw [eq_cast]; exact hsub
          rw [← hand] at hz
          clear hok hsub hgoal m4 m3 KR hand
          gi_wp2
          refine region_round (fun Y => Y.cell? ⟨ba, 0, none⟩ = some (.int .i64 (a : Int)) ∧ Y.cell? ⟨w.heap.size + 1 + 1, 0, none⟩ = some (.int .u8 (b : Int)) ∧ Y.cell? ⟨bk, 0, none⟩ = some (.int .i64 K) ∧ Below wr.heap.size wr Y) hmx (noDefer_of (by kernel_rfl)) ?_ (fun hHeld => ?_)
          · first | exact ⟨ca, cb, ck, (Below.refl _ _).drew⟩ | exact ⟨ca, cb, ck, ((Below.refl _ _).drew).drew⟩
          refine wpAnyH_take (i := 0) (oi := { dst := some 29, op := Op.load 3 (Operand.tmp 8), type := 3, pos := "law.go:208", after := #[], guard := none }) (v := ?_) rfl (by kernel_rfl) (by kernel_rfl) (by kernel_rfl) (fun _ _ _ h => h) (Or.inl ⟨by rfl, ?_⟩) (by assumption) ?_
          rotate_left
          · intro w hSw; (try dsimp only at hSw); go_simp <;> with_reducible rfl
          simp only [Act.put, List.setIfInBounds_toArray, List.set_cons_zero, List.set_cons_succ]
          refine wpAnyH_take (i := 1) (oi := { dst := some 30, op := Op.move (Operand.tmp 10), type := 3, pos := "law.go:208", after := #[], guard := none }) (v := ?_) rfl (by kernel_rfl) (by kernel_rfl) (by kernel_rfl) (fun _ _ _ h => h) (Or.inl ⟨by rfl, ?_⟩) (by assumption) ?_
          rotate_left
          · intro w hSw; (try dsimp only at hSw); go_simp <;> with_reducible rfl
          simp only [Act.put, List.setIfInBounds_toArray, List.set_cons_zero, List.set_cons_succ]
          refine wpAnyH_take (i := 2) (oi := { dst := some 31, op := Op.binOp BinOp.lss 3 (Operand.tmp 29) (Operand.tmp 30) 3, type := 4, pos := "law.go:208", after := #[{ on := 0, ground := Ground.data }, { on := 1, ground := Ground.data }], guard := none }) (v := ?_) rfl (by kernel_rfl) (by kernel_rfl) (by kernel_rfl) (fun _ _ _ h => h) (Or.inl ⟨by rfl, ?_⟩) (by assumption) ?_
          rotate_left
          · intro w hSw; (try dsimp only at hSw); go_simp <;> with_reducible rfl
          simp only [Act.put, List.setIfInBounds_toArray, List.set_cons_zero, List.set_cons_succ]
          refine wpAnyH_take (i := 3) (oi := { dst := some 32, op := Op.move (Operand.tmp 31), type := 4, pos := "law.go:208", after := #[{ on := 2, ground := Ground.data }], guard := none }) (v := ?_) rfl (by kernel_rfl) (by kernel_rfl) (by kernel_rfl) (fun _ _ _ h => h) (Or.inl ⟨by rfl, ?_⟩) (by assumption) ?_
          rotate_left
          · intro w hSw; (try dsimp only at hSw); go_simp <;> with_reducible rfl
          simp only [Act.put, List.setIfInBounds_toArray, List.set_cons_zero, List.set_cons_succ]
          refine wpAnyH_take (i := 4) (oi := { dst := some 33, op := Op.load 3 (Operand.tmp 8), type := 3, pos := "law.go:208", after := #[{ on := 3, ground := Ground.guard }], guard := some (3, true) }) (v := ?_) rfl (by kernel_rfl) (by kernel_rfl) (by kernel_rfl) (fun _ _ _ h => h) (Or.inl ⟨by rfl, ?_⟩) (by assumption) ?_
          rotate_left
          · intro w hSw; (try dsimp only at hSw); go_simp <;> with_reducible rfl
          simp only [Act.put, List.setIfInBounds_toArray, List.set_cons_zero, List.set_cons_succ]
          refine wpAnyH_take (i := 5) (oi := { dst := some 34, op := Op.convert 3 5 (Operand.tmp 33), type := 5, pos := "law.go:208", after := #[{ on := 4, ground := Ground.data }, { on := 3, ground := Ground.guard }], guard := some (3, true) }) (v := ?_) rfl (by kernel_rfl) (by kernel_rfl) (by kernel_rfl) (fun _ _ _ h => h) (Or.inl ⟨by rfl, ?_⟩) (by assumption) ?_
          rotate_left
          · intro w hSw; (try dsimp only at hSw); go_simp <;> with_reducible rfl
          simp only [Act.put, List.setIfInBounds_toArray, List.set_cons_zero, List.set_cons_succ]
          refine wpAnyH_take (i := 6) (oi := { dst := some 35, op := Op.load 5 (Operand.tmp 3), type := 5, pos := "law.go:208", after := #[{ on := 3, ground := Ground.guard }], guard := some (3, true) }) (v := ?_) rfl (by kernel_rfl) (by kernel_rfl) (by kernel_rfl) (fun _ _ _ h => h) (Or.inl ⟨by rfl, ?_⟩) (by assumption) ?_
          rotate_left
          · intro w hSw; (try dsimp only at hSw); go_simp <;> with_reducible rfl
          simp only [Act.put, List.setIfInBounds_toArray, List.set_cons_zero, List.set_cons_succ]
          refine wpAnyH_take (i := 7) (oi := { dst := some 36, op := Op.binOp BinOp.andNot 5 (Operand.tmp 34) (Operand.tmp 35) 5, type := 5, pos := "law.go:208", after := #[{ on := 5, ground := Ground.data }, { on := 6, ground := Ground.data }, { on := 3, ground := Ground.guard }], guard := some (3, true) }) (v := ?_) rfl (by kernel_rfl) (by kernel_rfl) (by kernel_rfl) (fun _ _ _ h => h) (Or.inl ⟨by rfl, ?_⟩) (by assumption) ?_
          rotate_left
          · intro w hSw; (try dsimp only at hSw); go_simp <;> with_reducible rfl
          simp only [Act.put, List.setIfInBounds_toArray, List.set_cons_zero, List.set_cons_succ]
          refine wpAnyH_take (i := 8) (oi := { dst := some 37, op := Op.binOp BinOp.eql 5 (Operand.tmp 36) (Operand.const (Value.int IntKind.u8 0)) 5, type := 4, pos := "law.go:208", after := #[{ on := 7, ground := Ground.data }, { on := 3, ground := Ground.guard }], guard := some (3, true) }) (v := ?_) rfl (by kernel_rfl) (by kernel_rfl) (by kernel_rfl) (fun _ _ _ h => h) (Or.inl ⟨by rfl, ?_⟩) (by assumption) ?_
          rotate_left
          · intro w hSw; (try dsimp only at hSw); go_simp <;> with_reducible rfl
          simp only [Act.put, List.setIfInBounds_toArray, List.set_cons_zero, List.set_cons_succ]
          refine wpAnyH_take (i := 9) (oi := { dst := some 38, op := Op.move (Operand.tmp 37), type := 4, pos := "law.go:208", after := #[{ on := 8, ground := Ground.data }, { on := 3, ground := Ground.chain }, { on := 3, ground := Ground.guard }], guard := some (3, true) }) (v := ?_) rfl (by kernel_rfl) (by kernel_rfl) (by kernel_rfl) (fun _ _ _ h => h) (Or.inl ⟨by rfl, ?_⟩) (by assumption) ?_
          rotate_left
          · intro w hSw; (try dsimp only at hSw); go_simp <;> with_reducible rfl
          simp only [Act.put, List.setIfInBounds_toArray, List.set_cons_zero, List.set_cons_succ]
          refine wpAnyH_take (i := 10) (oi := { dst := some 39, op := Op.load 3 (Operand.tmp 8), type := 3, pos := "law.go:208", after := #[{ on := 9, ground := Ground.guard }], guard := some (9, true) }) (v := undef) rfl (by kernel_rfl) (by kernel_rfl) (by kernel_rfl) (fun _ _ _ h => h) (Or.inr ⟨by rfl, rfl⟩) (by assumption) ?_
          simp only [Act.put, List.setIfInBounds_toArray, List.set_cons_zero, List.set_cons_succ]
          refine wpAnyH_take (i := 11) (oi := { dst := some 40, op := Op.convert 3 22 (Operand.tmp 39), type := 22, pos := "law.go:208", after := #[{ on := 10, ground := Ground.data }, { on := 9, ground := Ground.guard }], guard := some (9, true) }) (v := undef) rfl (by kernel_rfl) (by kernel_rfl) (by kernel_rfl) (fun _ _ _ h => h) (Or.inr ⟨by rfl, rfl⟩) (by assumption) ?_
          simp only [Act.put, List.setIfInBounds_toArray, List.set_cons_zero, List.set_cons_succ]
          refine wpAnyH_take (i := 12) (oi := { dst := some 41, op := Op.call { callee := Callee.value (Operand.func 7), args := #[Operand.tmp 40], argTypes := #[22] }, type := 3, pos := "law.go:208", after := #[{ on := 11, ground := Ground.data }, { on := 9, ground := Ground.chain }, { on := 9, ground := Ground.guard }], guard := some (9, true) }) (v := undef) rfl (by kernel_rfl) (by kernel_rfl) (by kernel_rfl) (fun _ _ _ h => h) (Or.inr ⟨by rfl, rfl⟩) (by assumption) ?_
          simp only [Act.put, List.setIfInBounds_toArray, List.set_cons_zero, List.set_cons_succ]
          refine wpAnyH_take (i := 13) (oi := { dst := some 42, op := Op.load 3 (Operand.tmp 6), type := 3, pos := "law.go:208", after := #[{ on := 9, ground := Ground.guard }], guard := some (9, true) }) (v := undef) rfl (by kernel_rfl) (by kernel_rfl) (by kernel_rfl) (fun _ _ _ h => h) (Or.inr ⟨by rfl, rfl⟩) (by assumption) ?_
          simp only [Act.put, List.setIfInBounds_toArray, List.set_cons_zero, List.set_cons_succ]
          refine wpAnyH_take (i := 14) (oi := { dst := some 43, op := Op.binOp BinOp.eql 3 (Operand.tmp 41) (Operand.tmp 42) 3, type := 4, pos := "law.go:208", after := #[{ on := 12, ground := Ground.data }, { on := 13, ground := Ground.data }, { on := 9, ground := Ground.guard }], guard := some (9, true) }) (v := undef) rfl (by kernel_rfl) (by kernel_rfl) (by kernel_rfl) (fun _ _ _ h => h) (Or.inr ⟨by rfl, rfl⟩) (by assumption) ?_
          simp only [Act.put, List.setIfInBounds_toArray, List.set_cons_zero, List.set_cons_succ]
          refine wpAnyH_take (i := 15) (oi := { dst := some 44, op := Op.pick (Operand.tmp 38) (Operand.tmp 43) (Operand.const (Value.bool false)), type := 4, pos := "law.go:208", after := #[{ on := 9, ground := Ground.data }, { on := 14, ground := Ground.data }, { on := 3, ground := Ground.guard }], guard := some (3, true) }) (v := ?_) rfl (by kernel_rfl) (by kernel_rfl) (by kernel_rfl) (fun _ _ _ h => h) (Or.inl ⟨by rfl, ?_⟩) (by assumption) ?_
          rotate_left
          · intro w hSw; (try dsimp only at hSw); go_simp <;> with_reducible rfl
          simp only [Act.put, List.setIfInBounds_toArray, List.set_cons_zero, List.set_cons_succ]
          refine wpAnyH_take (i := 16) (oi := { dst := some 45, op := Op.unOp UnOp.not 4 (Operand.tmp 44), type := 4, pos := "law.go:208", after := #[{ on := 15, ground := Ground.data }, { on := 3, ground := Ground.guard }], guard := some (3, true) }) (v := ?_) rfl (by kernel_rfl) (by kernel_rfl) (by kernel_rfl) (fun _ _ _ h => h) (Or.inl ⟨by rfl, ?_⟩) (by assumption) ?_
          rotate_left
          · intro w hSw; (try dsimp only at hSw); go_simp <;> with_reducible rfl
          simp only [Act.put, List.setIfInBounds_toArray, List.set_cons_zero, List.set_cons_succ]
          refine wpAnyH_take (i := 17) (oi := { dst := some 46, op := Op.pick (Operand.tmp 32) (Operand.tmp 45) (Operand.const (Value.bool false)), type := 4, pos := "law.go:208", after := #[{ on := 3, ground := Ground.data }, { on := 16, ground := Ground.data }], guard := none }) (v := ?_) rfl (by kernel_rfl) (by kernel_rfl) (by kernel_rfl) (fun _ _ _ h => h) (Or.inl ⟨by rfl, ?_⟩) (by assumption) ?_
          rotate_left
          · intro w hSw; (try dsimp only at hSw); go_simp <;> with_reducible rfl
          simp only [Act.put, List.setIfInBounds_toArray, List.set_cons_zero, List.set_cons_succ]
          refine wpAnyH_done (by kernel_rfl) ?_ _
          unfold onlyNormal
          have bY := bxb8 hC.out.aa hHeld.2.2.2
          have cY := bY.cell
          have fY := bY.frozen
          gi_wp2
          exact hnext.out _ hHeld.2.2.2
      · obtain rfl : a = t := by omega
        have hok := m3
        unfold okZ at hok
        rw [Bool.and_eq_true] at hok
        have h0 : a &&& (255 - b) = 0 := by simpa using hok.1
        have hK0 : ((pop8 a : Nat) : Int) = K := by simpa using hok.2
        have hirr : ¬ (a : Int) < (a : Int) := by omega
        rw [h0] at hand
        rw [hK0] at KR
        have hfin : Hid (∀ Y, Below wr.heap.size wr Y → KeepsFrom W0.heap.size V (Y.setCell ⟨ba, 0, none⟩ (.int .i64 ((a + 1 : Nat) : Int))) ∧ KpB sb' V (Y.setCell ⟨ba, 0, none⟩ (.int .i64 ((a + 1 : Nat) : Int))) ∧ CI w b K bk ba W0.heap.size (atL 0 (pre ++ [a])) (Y.setCell ⟨ba, 0, none⟩ (.int .i64 ((a + 1 : Nat) : Int))) ∧ Kept (W0.heap.size + 2) V (Y.setCell ⟨ba, 0, none⟩ (.int .i64 ((a + 1 : Nat) : Int)))) := fun Y hY => by
          have bY := bxb8 hC.out.aa hY
          exact hgoal.out _ (hO.out.trans ((Oz.of_below hY (by have := hC.out.sz; omega)).trans (Oz.set _ _))) (bY.set _)
        clear hok h0 hK0 hgoal m4 m3
        gi_wp2
        refine region_round (fun Y => Y.cell? ⟨ba, 0, none⟩ = some (.int .i64 (a : Int)) ∧ Y.cell? ⟨w.heap.size + 1 + 1, 0, none⟩ = some (.int .u8 (b : Int)) ∧ Y.cell? ⟨bk, 0, none⟩ = some (.int .i64 K) ∧ Below wr.heap.size wr Y) hmx (noDefer_of (by kernel_rfl)) ?_ (fun hHeld => ?_)
        · first | exact ⟨ca, cb, ck, (Below.refl _ _).drew⟩ | exact ⟨ca, cb, ck, ((Below.refl _ _).drew).drew⟩
        refine wpAnyH_take (i := 0) (oi := { dst := some 29, op := Op.load 3 (Operand.tmp 8), type := 3, pos := "law.go:208", after := #[], guard := none }) (v := ?_) rfl (by kernel_rfl) (by kernel_rfl) (by kernel_rfl) (fun _ _ _ h => h) (Or.inl ⟨by rfl, ?_⟩) (by assumption) ?_
        rotate_left
        · intro w hSw; (try dsimp only at hSw); go_simp <;> with_reducible rfl
        simp only [Act.put, List.setIfInBounds_toArray, List.set_cons_zero, List.set_cons_succ]
        refine wpAnyH_take (i := 1) (oi := { dst := some 30, op := Op.move (Operand.tmp 10), type := 3, pos := "law.go:208", after := #[], guard := none }) (v := ?_) rfl (by kernel_rfl) (by kernel_rfl) (by kernel_rfl) (fun _ _ _ h => h) (Or.inl ⟨by rfl, ?_⟩) (by assumption) ?_
        rotate_left
        · intro w hSw; (try dsimp only at hSw); go_simp <;> with_reducible rfl
        simp only [Act.put, List.setIfInBounds_toArray, List.set_cons_zero, List.set_cons_succ]
        refine wpAnyH_take (i := 2) (oi := { dst := some 31, op := Op.binOp BinOp.lss 3 (Operand.tmp 29) (Operand.tmp 30) 3, type := 4, pos := "law.go:208", after := #[{ on := 0, ground := Ground.data }, { on := 1, ground := Ground.data }], guard := none }) (v := ?_) rfl (by kernel_rfl) (by kernel_rfl) (by kernel_rfl) (fun _ _ _ h => h) (Or.inl ⟨by rfl, ?_⟩) (by assumption) ?_
        rotate_left
        · intro w hSw; (try dsimp only at hSw); go_simp <;> with_reducible rfl
        simp only [Act.put, List.setIfInBounds_toArray, List.set_cons_zero, List.set_cons_succ]
        refine wpAnyH_take (i := 3) (oi := { dst := some 32, op := Op.move (Operand.tmp 31), type := 4, pos := "law.go:208", after := #[{ on := 2, ground := Ground.data }], guard := none }) (v := ?_) rfl (by kernel_rfl) (by kernel_rfl) (by kernel_rfl) (fun _ _ _ h => h) (Or.inl ⟨by rfl, ?_⟩) (by assumption) ?_
        rotate_left
        · intro w hSw; (try dsimp only at hSw); go_simp <;> with_reducible rfl
        simp only [Act.put, List.setIfInBounds_toArray, List.set_cons_zero, List.set_cons_succ]
        refine wpAnyH_take (i := 4) (oi := { dst := some 33, op := Op.load 3 (Operand.tmp 8), type := 3, pos := "law.go:208", after := #[{ on := 3, ground := Ground.guard }], guard := some (3, true) }) (v := undef) rfl (by kernel_rfl) (by kernel_rfl) (by kernel_rfl) (fun _ _ _ h => h) (Or.inr ⟨by rfl, rfl⟩) (by assumption) ?_
        simp only [Act.put, List.setIfInBounds_toArray, List.set_cons_zero, List.set_cons_succ]
        refine wpAnyH_take (i := 5) (oi := { dst := some 34, op := Op.convert 3 5 (Operand.tmp 33), type := 5, pos := "law.go:208", after := #[{ on := 4, ground := Ground.data }, { on := 3, ground := Ground.guard }], guard := some (3, true) }) (v := undef) rfl (by kernel_rfl) (by kernel_rfl) (by kernel_rfl) (fun _ _ _ h => h) (Or.inr ⟨by rfl, rfl⟩) (by assumption) ?_
        simp only [Act.put, List.setIfInBounds_toArray, List.set_cons_zero, List.set_cons_succ]
        refine wpAnyH_take (i := 6) (oi := { dst := some 35, op := Op.load 5 (Operand.tmp 3), type := 5, pos := "law.go:208", after := #[{ on := 3, ground := Ground.guard }], guard := some (3, true) }) (v := undef) rfl (by kernel_rfl) (by kernel_rfl) (by kernel_rfl) (fun _ _ _ h => h) (Or.inr ⟨by rfl, rfl⟩) (by assumption) ?_
        simp only [Act.put, List.setIfInBounds_toArray, List.set_cons_zero, List.set_cons_succ]
        refine wpAnyH_take (i := 7) (oi := { dst := some 36, op := Op.binOp BinOp.andNot 5 (Operand.tmp 34) (Operand.tmp 35) 5, type := 5, pos := "law.go:208", after := #[{ on := 5, ground := Ground.data }, { on := 6, ground := Ground.data }, { on := 3, ground := Ground.guard }], guard := some (3, true) }) (v := undef) rfl (by kernel_rfl) (by kernel_rfl) (by kernel_rfl) (fun _ _ _ h => h) (Or.inr ⟨by rfl, rfl⟩) (by assumption) ?_
        simp only [Act.put, List.setIfInBounds_toArray, List.set_cons_zero, List.set_cons_succ]
        refine wpAnyH_take (i := 8) (oi := { dst := some 37, op := Op.binOp BinOp.eql 5 (Operand.tmp 36) (Operand.const (Value.int IntKind.u8 0)) 5, type := 4, pos := "law.go:208", after := #[{ on := 7, ground := Ground.data }, { on := 3, ground := Ground.guard }], guard := some (3, true) }) (v := undef) rfl (by kernel_rfl) (by kernel_rfl) (by kernel_rfl) (fun _ _ _ h => h) (Or.inr ⟨by rfl, rfl⟩) (by assumption) ?_
        simp only [Act.put, List.setIfInBounds_toArray, List.set_cons_zero, List.set_cons_succ]
        refine wpAnyH_take (i := 9) (oi := { dst := some 38, op := Op.move (Operand.tmp 37), type := 4, pos := "law.go:208", after := #[{ on := 8, ground := Ground.data }, { on := 3, ground := Ground.chain }, { on := 3, ground := Ground.guard }], guard := some (3, true) }) (v := undef) rfl (by kernel_rfl) (by kernel_rfl) (by kernel_rfl) (fun _ _ _ h => h) (Or.inr ⟨by rfl, rfl⟩) (by assumption) ?_
        simp only [Act.put, List.setIfInBounds_toArray, List.set_cons_zero, List.set_cons_succ]
        refine wpAnyH_take (i := 10) (oi := { dst := some 39, op := Op.load 3 (Operand.tmp 8), type := 3, pos := "law.go:208", after := #[{ on := 9, ground := Ground.guard }], guard := some (9, true) }) (v := undef) rfl (by kernel_rfl) (by kernel_rfl) (by kernel_rfl) (fun _ _ _ h => h) (Or.inr ⟨by rfl, rfl⟩) (by assumption) ?_
        simp only [Act.put, List.setIfInBounds_toArray, List.set_cons_zero, List.set_cons_succ]
        refine wpAnyH_take (i := 11) (oi := { dst := some 40, op := Op.convert 3 22 (Operand.tmp 39), type := 22, pos := "law.go:208", after := #[{ on := 10, ground := Ground.data }, { on := 9, ground := Ground.guard }], guard := some (9, true) }) (v := undef) rfl (by kernel_rfl) (by kernel_rfl) (by kernel_rfl) (fun _ _ _ h => h) (Or.inr ⟨by rfl, rfl⟩) (by assumption) ?_
        simp only [Act.put, List.setIfInBounds_toArray, List.set_cons_zero, List.set_cons_succ]
        refine wpAnyH_take (i := 12) (oi := { dst := some 41, op := Op.call { callee := Callee.value (Operand.func 7), args := #[Operand.tmp 40], argTypes := #[22] }, type := 3, pos := "law.go:208", after := #[{ on := 11, ground := Ground.data }, { on := 9, ground := Ground.chain }, { on := 9, ground := Ground.guard }], guard := some (9, true) }) (v := undef) rfl (by kernel_rfl) (by kernel_rfl) (by kernel_rfl) (fun _ _ _ h => h) (Or.inr ⟨by rfl, rfl⟩) (by assumption) ?_
        simp only [Act.put, List.setIfInBounds_toArray, List.set_cons_zero, List.set_cons_succ]
        refine wpAnyH_take (i := 13) (oi := { dst := some 42, op := Op.load 3 (Operand.tmp 6), type := 3, pos := "law.go:208", after := #[{ on := 9, ground := Ground.guard }], guard := some (9, true) }) (v := undef) rfl (by kernel_rfl) (by kernel_rfl) (by kernel_rfl) (fun _ _ _ h => h) (Or.inr ⟨by rfl, rfl⟩) (by assumption) ?_
        simp only [Act.put, List.setIfInBounds_toArray, List.set_cons_zero, List.set_cons_succ]
        refine wpAnyH_take (i := 14) (oi := { dst := some 43, op := Op.binOp BinOp.eql 3 (Operand.tmp 41) (Operand.tmp 42) 3, type := 4, pos := "law.go:208", after := #[{ on := 12, ground := Ground.data }, { on := 13, ground := Ground.data }, { on := 9, ground := Ground.guard }], guard := some (9, true) }) (v := undef) rfl (by kernel_rfl) (by kernel_rfl) (by kernel_rfl) (fun _ _ _ h => h) (Or.inr ⟨by rfl, rfl⟩) (by assumption) ?_
        simp only [Act.put, List.setIfInBounds_toArray, List.set_cons_zero, List.set_cons_succ]
        refine wpAnyH_take (i := 15) (oi := { dst := some 44, op := Op.pick (Operand.tmp 38) (Operand.tmp 43) (Operand.const (Value.bool false)), type := 4, pos := "law.go:208", after := #[{ on := 9, ground := Ground.data }, { on := 14, ground := Ground.data }, { on := 3, ground := Ground.guard }], guard := some (3, true) }) (v := undef) rfl (by kernel_rfl) (by kernel_rfl) (by kernel_rfl) (fun _ _ _ h => h) (Or.inr ⟨by rfl, rfl⟩) (by assumption) ?_
        simp only [Act.put, List.setIfInBounds_toArray, List.set_cons_zero, List.set_cons_succ]
        refine wpAnyH_take (i := 16) (oi := { dst := some 45, op := Op.unOp UnOp.not 4 (Operand.tmp 44), type := 4, pos := "law.go:208", after := #[{ on := 15, ground := Ground.data }, { on := 3, ground := Ground.guard }], guard := some (3, true) }) (v := undef) rfl (by kernel_rfl) (by kernel_rfl) (by kernel_rfl) (fun _ _ _ h => h) (Or.inr ⟨by rfl, rfl⟩) (by assumption) ?_
        simp only [Act.put, List.setIfInBounds_toArray, List.set_cons_zero, List.set_cons_succ]
        refine wpAnyH_take (i := 17) (oi := { dst := some 46, op := Op.pick (Operand.tmp 32) (Operand.tmp 45) (Operand.const (Value.bool false)), type := 4, pos := "law.go:208", after := #[{ on := 3, ground := Ground.data }, { on := 16, ground := Ground.data }], guard := none }) (v := ?_) rfl (by kernel_rfl) (by kernel_rfl) (by kernel_rfl) (fun _ _ _ h => h) (Or.inl ⟨by rfl, ?_⟩) (by assumption) ?_
        rotate_left
        · intro w hSw; (try dsimp only at hSw); go_simp <;> with_reducible rfl
        simp only [Act.put, List.setIfInBounds_toArray, List.set_cons_zero, List.set_cons_succ]
        refine wpAnyH_done (by kernel_rfl) ?_ _
        unfold onlyNormal
        gi_wp2
        have ca := hHeld.1
        have cb := hHeld.2.1
        have ck := hHeld.2.2.1
        clear hHeld
        refine region_round (fun Y => Y.cell? ⟨ba, 0, none⟩ = some (.int .i64 (a : Int)) ∧ Y.cell? ⟨w.heap.size + 1 + 1, 0, none⟩ = some (.int .u8 (b : Int)) ∧ Y.cell? ⟨bk, 0, none⟩ = some (.int .i64 K) ∧ Below wr.heap.size wr Y) hmx (noDefer_of (by kernel_rfl)) ?_ (fun hHeld => ?_)
        · first | exact ⟨ca, cb, ck, (Below.refl _ _).drew⟩ | exact ⟨ca, cb, ck, ((Below.refl _ _).drew).drew⟩
        refine wpAnyH_take (i := 0) (oi := { dst := some 49, op := Op.load 3 (Operand.tmp 8), type := 3, pos := "law.go:211", after := #[], guard := none }) (v := ?_) rfl (by kernel_rfl) (by kernel_rfl) (by kernel_rfl) (fun _ _ _ h => h) (Or.inl ⟨by rfl, ?_⟩) (by assumption) ?_
        rotate_left
        · intro w hSw; (try dsimp only at hSw); go_simp <;> with_reducible rfl
        simp only [Act.put, List.setIfInBounds_toArray, List.set_cons_zero, List.set_cons_succ]
        refine wpAnyH_take (i := 1) (oi := { dst := some 50, op := Op.move (Operand.tmp 10), type := 3, pos := "law.go:211", after := #[], guard := none }) (v := ?_) rfl (by kernel_rfl) (by kernel_rfl) (by kernel_rfl) (fun _ _ _ h => h) (Or.inl ⟨by rfl, ?_⟩) (by assumption) ?_
        rotate_left
        · intro w hSw; (try dsimp only at hSw); go_simp <;> with_reducible rfl
        simp only [Act.put, List.setIfInBounds_toArray, List.set_cons_zero, List.set_cons_succ]
        refine wpAnyH_take (i := 2) (oi := { dst := some 51, op := Op.binOp BinOp.neq 3 (Operand.tmp 49) (Operand.tmp 50) 3, type := 4, pos := "law.go:211", after := #[{ on := 0, ground := Ground.data }, { on := 1, ground := Ground.data }], guard := none }) (v := ?_) rfl (by kernel_rfl) (by kernel_rfl) (by kernel_rfl) (fun _ _ _ h => h) (Or.inl ⟨by rfl, ?_⟩) (by assumption) ?_
        rotate_left
        · intro w hSw; (try dsimp only at hSw); go_simp <;> with_reducible rfl
        simp only [Act.put, List.setIfInBounds_toArray, List.set_cons_zero, List.set_cons_succ]
        refine wpAnyH_take (i := 3) (oi := { dst := some 52, op := Op.move (Operand.tmp 51), type := 4, pos := "law.go:211", after := #[{ on := 2, ground := Ground.data }], guard := none }) (v := ?_) rfl (by kernel_rfl) (by kernel_rfl) (by kernel_rfl) (fun _ _ _ h => h) (Or.inl ⟨by rfl, ?_⟩) (by assumption) ?_
        rotate_left
        · intro w hSw; (try dsimp only at hSw); go_simp <;> with_reducible rfl
        simp only [Act.put, List.setIfInBounds_toArray, List.set_cons_zero, List.set_cons_succ]
        refine wpAnyH_take (i := 4) (oi := { dst := some 53, op := Op.move (Operand.tmp 10), type := 3, pos := "law.go:211", after := #[{ on := 3, ground := Ground.guard }], guard := some (3, false) }) (v := ?_) rfl (by kernel_rfl) (by kernel_rfl) (by kernel_rfl) (fun _ _ _ h => h) (Or.inl ⟨by rfl, ?_⟩) (by assumption) ?_
        rotate_left
        · intro w hSw; (try dsimp only at hSw); go_simp <;> with_reducible rfl
        simp only [Act.put, List.setIfInBounds_toArray, List.set_cons_zero, List.set_cons_succ]
        refine wpAnyH_take (i := 5) (oi := { dst := some 54, op := Op.convert 3 5 (Operand.tmp 53), type := 5, pos := "law.go:211", after := #[{ on := 4, ground := Ground.data }, { on := 3, ground := Ground.guard }], guard := some (3, false) }) (v := ?_) rfl (by kernel_rfl) (by kernel_rfl) (by kernel_rfl) (fun _ _ _ h => h) (Or.inl ⟨by rfl, ?_⟩) (by assumption) ?_
        rotate_left
        · intro w hSw; (try dsimp only at hSw); go_simp <;> with_reducible rfl
        simp only [Act.put, List.setIfInBounds_toArray, List.set_cons_zero, List.set_cons_succ]
        refine wpAnyH_take (i := 6) (oi := { dst := some 55, op := Op.load 5 (Operand.tmp 3), type := 5, pos := "law.go:211", after := #[{ on := 3, ground := Ground.guard }], guard := some (3, false) }) (v := ?_) rfl (by kernel_rfl) (by kernel_rfl) (by kernel_rfl) (fun _ _ _ h => h) (Or.inl ⟨by rfl, ?_⟩) (by assumption) ?_
        rotate_left
        · intro w hSw; (try dsimp only at hSw); go_simp <;> with_reducible rfl
        simp only [Act.put, List.setIfInBounds_toArray, List.set_cons_zero, List.set_cons_succ]
        refine wpAnyH_take (i := 7) (oi := { dst := some 56, op := Op.binOp BinOp.andNot 5 (Operand.tmp 54) (Operand.tmp 55) 5, type := 5, pos := "law.go:211", after := #[{ on := 5, ground := Ground.data }, { on := 6, ground := Ground.data }, { on := 3, ground := Ground.guard }], guard := some (3, false) }) (v := ?_) rfl (by kernel_rfl) (by kernel_rfl) (by kernel_rfl) (fun _ _ _ h => h) (Or.inl ⟨by rfl, ?_⟩) (by assumption) ?_
        rotate_left
        · intro w hSw; (try dsimp only at hSw); go_simp <;> with_reducible rfl
        simp only [Act.put, List.setIfInBounds_toArray, List.set_cons_zero, List.set_cons_succ]
        refine wpAnyH_take (i := 8) (oi := { dst := some 57, op := Op.binOp BinOp.neq 5 (Operand.tmp 56) (Operand.const (Value.int IntKind.u8 0)) 5, type := 4, pos := "law.go:211", after := #[{ on := 7, ground := Ground.data }, { on := 3, ground := Ground.guard }], guard := some (3, false) }) (v := ?_) rfl (by kernel_rfl) (by kernel_rfl) (by kernel_rfl) (fun _ _ _ h => h) (Or.inl ⟨by rfl, ?_⟩) (by assumption) ?_
        rotate_left
        · intro w hSw; (try dsimp only at hSw); go_simp <;> with_reducible rfl
        simp only [Act.put, List.setIfInBounds_toArray, List.set_cons_zero, List.set_cons_succ]
        refine wpAnyH_take (i := 9) (oi := { dst := some 58, op := Op.pick (Operand.tmp 52) (Operand.const (Value.bool true)) (Operand.tmp 57), type := 4, pos := "law.go:211", after := #[{ on := 3, ground := Ground.data }, { on := 8, ground := Ground.data }], guard := none }) (v := ?_) rfl (by kernel_rfl) (by kernel_rfl) (by kernel_rfl) (fun _ _ _ h => h) (Or.inl ⟨by rfl, ?_⟩) (by assumption) ?_
        rotate_left
        · intro w hSw; (try dsimp only at hSw); go_simp <;> with_reducible rfl
        simp only [Act.put, List.setIfInBounds_toArray, List.set_cons_zero, List.set_cons_succ]
        refine wpAnyH_take (i := 10) (oi := { dst := some 59, op := Op.move (Operand.tmp 58), type := 4, pos := "law.go:211", after := #[{ on := 9, ground := Ground.data }, { on := 3, ground := Ground.chain }], guard := none }) (v := ?_) rfl (by kernel_rfl) (by kernel_rfl) (by kernel_rfl) (fun _ _ _ h => h) (Or.inl ⟨by rfl, ?_⟩) (by assumption) ?_
        rotate_left
        · intro w hSw; (try dsimp only at hSw); go_simp <;> with_reducible rfl
        simp only [Act.put, List.setIfInBounds_toArray, List.set_cons_zero, List.set_cons_succ]
        refine wpAnyH_take (i := 11) (oi := { dst := some 60, op := Op.move (Operand.tmp 10), type := 3, pos := "law.go:211", after := #[{ on := 10, ground := Ground.guard }], guard := some (10, false) }) (v := ?_) rfl (by kernel_rfl) (by kernel_rfl) (by kernel_rfl) (fun _ _ _ h => h) (Or.inl ⟨by rfl, ?_⟩) (by assumption) ?_
        rotate_left
        · intro w hSw; (try dsimp only at hSw); go_simp <;> with_reducible rfl
        simp only [Act.put, List.setIfInBounds_toArray, List.set_cons_zero, List.set_cons_succ]
        refine wpAnyH_take (i := 12) (oi := { dst := some 61, op := Op.convert 3 22 (Operand.tmp 60), type := 22, pos := "law.go:211", after := #[{ on := 11, ground := Ground.data }, { on := 10, ground := Ground.guard }], guard := some (10, false) }) (v := ?_) rfl (by kernel_rfl) (by kernel_rfl) (by kernel_rfl) (fun _ _ _ h => h) (Or.inl ⟨by rfl, ?_⟩) (by assumption) ?_
        rotate_left
        · intro w hSw; (try dsimp only at hSw); go_simp <;> with_reducible rfl
        simp only [Act.put, List.setIfInBounds_toArray, List.set_cons_zero, List.set_cons_succ]
        refine wpAnyH_take (i := 14) (oi := { dst := some 63, op := Op.load 3 (Operand.tmp 6), type := 3, pos := "law.go:211", after := #[{ on := 10, ground := Ground.guard }], guard := some (10, false) }) (v := ?_) rfl (by kernel_rfl) (by kernel_rfl) (by kernel_rfl) (fun _ _ _ h => h) (Or.inl ⟨by rfl, ?_⟩) (by assumption) ?_
        rotate_left
        · intro w hSw; (try dsimp only at hSw); go_simp <;> with_reducible rfl
        simp only [Act.put, List.setIfInBounds_toArray, List.set_cons_zero, List.set_cons_succ]
        refine wpAnyH_ready (rs := [13]) (by kernel_rfl) (by simp) ?_
        refine AllReadyH.cons (o := { dst := some 62, op := Op.call { callee := Callee.value (Operand.func 7), args := #[Operand.tmp 61], argTypes := #[22] }, type := 3, pos := "law.go:211", after := #[{ on := 12, ground := Ground.data }, { on := 10, ground := Ground.chain }, { on := 10, ground := Ground.guard }], guard := some (10, false) }) rfl (fun K hK => ?_) AllReadyH.nil
        go_simp
        refine (KR.out _).mono ?_; rintro e w6 ⟨rfl, hb6⟩; (try dsimp only)
        refine hK.out _ _ ?_ (fun hHeld => ?_)
        · exact ⟨(hb6.cell (p := ⟨ba, 0, none⟩) (cell_lt hHeld.1)).trans hHeld.1, (hb6.cell (p := ⟨w.heap.size + 1 + 1, 0, none⟩) (cell_lt hHeld.2.1)).trans hHeld.2.1, (hb6.cell (p := ⟨bk, 0, none⟩) (cell_lt hHeld.2.2.1)).trans hHeld.2.2.1, hHeld.2.2.2.trans (hb6.mono hHeld.2.2.2.size)⟩
        clear hK K
        try simp only [Act.put, List.setIfInBounds_toArray, List.set_cons_zero, List.set_cons_succ]
        refine wpAnyH_take (i := 15) (oi := { dst := some 64, op := Op.binOp BinOp.neq 3 (Operand.tmp 62) (Operand.tmp 63) 3, type := 4, pos := "law.go:211", after := #[{ on := 13, ground := Ground.data }, { on := 14, ground := Ground.data }, { on := 10, ground := Ground.guard }], guard := some (10, false) }) (v := ?_) rfl (by kernel_rfl) (by kernel_rfl) (by kernel_rfl) (fun _ _ _ h => h) (Or.inl ⟨by rfl, ?_⟩) (by assumption) ?_
        rotate_left
        · intro w hSw; (try dsimp only at hSw); go_simp <;> with_reducible rfl
        simp only [Act.put, List.setIfInBounds_toArray, List.set_cons_zero, List.set_cons_succ]
        refine wpAnyH_take (i := 16) (oi := { dst := some 65, op := Op.pick (Operand.tmp 59) (Operand.const (Value.bool true)) (Operand.tmp 64), type := 4, pos := "law.go:211", after := #[{ on := 10, ground := Ground.data }, { on := 15, ground := Ground.data }], guard := none }) (v := ?_) rfl (by kernel_rfl) (by kernel_rfl) (by kernel_rfl) (fun _ _ _ h => h) (Or.inl ⟨by rfl, ?_⟩) (by assumption) ?_
        rotate_left
        · intro w hSw; (try dsimp only at hSw); go_simp <;> with_reducible rfl
        simp only [Act.put, List.setIfInBounds_toArray, List.set_cons_zero, List.set_cons_succ]
        refine wpAnyH_done (by kernel_rfl) ?_ _
        unfold onlyNormal
        have bY := bxb8 hC.out.aa hHeld.2.2.2
        have cY := bY.cell
        have fY := bY.frozen
        have hF := hfin.out _ hHeld.2.2.2
        gi_wp2
        exact ⟨hF.1, hF.2.1, hF.2.2.1, hF.2.2.2⟩
  case done =>
    rintro D V hD hCI hK
    obtain ⟨hl1, hl2⟩ := hlast'.out
    generalize hst : atL 0 (chZ K b) = a0 at *
    clear hst hlast' hmeet'
    have hDW := (Array.getElem?_eq_some_iff.1 hK).1
    go_wp2
    go_loopw [83] (fun _ X => ∃ a : Nat, a0 ≤ a ∧ a ≤ 256 ∧ Hid (CI w b K bk ba W0.heap.size a X) ∧ Hid (X.heap[D]? = some (.deferred (some [])))) (fun _ X => ((256 : Int) - numA ba X).toNat)
    case atStart => exact ⟨a0, Nat.le_refl _, hl1, hCI, hK⟩
    case round =>
      obtain ⟨a, ha0, hat, hC, hKD⟩ := hrel
      have ca := hC.out.aa.cell
      have cb := hC.out.bb.cell
      have ck := hC.out.kk.cell
      have hnum := numA_of hC.out.aa
      have zC := hC.out.sz
      by_cases hlt : a < 256
      · have hok := hl2 a ha0 hlt
        have hlt' : (a : Int) < 256 := by omega
        have hw8 : IntKind.u8.wrap (a : Int) = (a : Int) := by simp [IntKind.wrap, IntKind.bits, IntKind.signed]; omega
        have hw64 : IntKind.u64.wrap (a : Int) = (a : Int) := by rw [IntKind.wrap_u64]; omega
        have hand := u8_andNot_nat a b hlt hbl
        have KR : Hid (∀ Y, Calls Tryd.prog 7 #[.int .u64 (a : Int)] Y fun e w' => e = .returned (.int .i64 ((pop8 a : Nat) : Int)) ∧ Below Y.heap.size Y w') := fun Y => by
          have := refLen a (by omega) Y
          rwa [show (nums a).length = pop8 a from nums_pop ⟨a, hlt⟩] at this
        have hwa : IntKind.i64.wrap ((a : Int) + 1) = ((a + 1 : Nat) : Int) := by rw [IntKind.wrap_i64]; omega
        have hnext : Hid (∀ Y, Below wr.heap.size wr Y → (∃ a' : Nat, a0 ≤ a' ∧ a' ≤ 256 ∧ Hid (CI w b K bk ba W0.heap.size a' (Y.setCell ⟨ba, 0, none⟩ (.int .i64 ((a + 1 : Nat) : Int)))) ∧ Hid ((Y.setCell ⟨ba, 0, none⟩ (.int .i64 ((a + 1 : Nat) : Int))).heap[D]? = some (.deferred (some [])))) ∧ ((256 : Int) - numA ba (Y.setCell ⟨ba, 0, none⟩ (.int .i64 ((a + 1 : Nat) : Int)))).toNat < ((256 : Int) - numA ba wr).toNat) := fun Y hY => by
          have bY := bxb8 hC.out.aa hY
          have bY2 := bY.set (.int .i64 ((a + 1 : Nat) : Int))
          have hOY : Oz ba wr (Y.setCell ⟨ba, 0, none⟩ (.int .i64 ((a + 1 : Nat) : Int))) := (Oz.of_below hY (by omega)).trans (Oz.set _ _)
          refine ⟨⟨a + 1, by omega, by omega, hC.out.oz hOY (by omega) (by omega) bY2, (hOY.up D (by omega) (Array.getElem?_eq_some_iff.1 hKD.out).1).trans hKD.out⟩, ?_⟩
          rw [numA_of bY2, hnum]
          omega
        have hS0 : Hid (wr.drew.cell? ⟨ba, 0, none⟩ = some (.int .i64 (a : Int)) ∧ wr.drew.cell? ⟨w.heap.size + 1 + 1, 0, none⟩ = some (.int .u8 (b : Int)) ∧ wr.drew.cell? ⟨bk, 0, none⟩ = some (.int .i64 K) ∧ Below wr.heap.size wr wr.drew) := ⟨ca, cb, ck, (Below.refl _ _).drew⟩
        unfold okZ at hok
        cases hsub : (a &&& (255 - b) == 0) with
        | true =>
          rw [hsub] at hok
          have hne : ¬ ((pop8 a : Nat) : Int) = K := by simpa using hok
          have h0 : a &&& (255 - b) = 0 := by simpa using hsub
          rw [h0] at hand
          have hne' : (((pop8 a : Nat) : Int) == K) = false := by simpa using hne
          clear hok hsub h0 hne hl2
          generalize pop8 a = pa at *
          go_wp2
          go_region_held3 (fun Y => Y.cell? ⟨ba, 0, none⟩ = some (.int .i64 (a : Int)) ∧ Y.cell? ⟨w.heap.size + 1 + 1, 0, none⟩ = some (.int .u8 (b : Int)) ∧ Y.cell? ⟨bk, 0, none⟩ = some (.int .i64 K) ∧ Below wr.heap.size wr Y) (first | assumption | (exact hS0.out) | (exact keep3c (by assumption) hb6)) (first | (go_at_call 7; refine (KR.out _).mono ?_; rintro e w6 ⟨rfl, hb6⟩))
          have hB6 : Below wr.heap.size wr w6 := ‹_ ∧ _ ∧ _ ∧ Below wr.heap.size wr w6›.2.2.2
          have bY := bxb8 hC.out.aa hB6
          have cY := bY.cell
          have fY := bY.frozen
          go_wp2
          exact hnext.out _ hB6
        | false =>
          have hz : (((a &&& (255 - b) : Nat) : Int) == 0) = false := by rw [eq_cast]; exact hsub
          rw [← hand] at hz
          have bY := bxb8 hC.out.aa ((Below.refl _ wr).drew)
          have cY := bY.cell
          have fY := bY.frozen
          clear hok hsub hl2 KR hand
          go_wp2
          refine wp_region_noPanic (wp_region_held_drew (S := (fun Y => Y.cell? ⟨ba, 0, none⟩ = some (.int .i64 (a : Int)) ∧ Y.cell? ⟨w.heap.size + 1 + 1, 0, none⟩ = some (.int .u8 (b : Int)) ∧ Y.cell? ⟨bk, 0, none⟩ = some (.int .i64 K) ∧ Below wr.heap.size wr Y)) (by kernel_rfl) ?_ (fun hHeld => ?_))
          · exact hS0.out
          refine wpAnyH_take (i := 0) (oi := { dst := some 70, op := Op.load 3 (Operand.tmp 8), type := 3, pos := "law.go:217", after := #[], guard := none }) (v := ?_) rfl (by kernel_rfl) (by kernel_rfl) (by kernel_rfl) (fun _ _ _ h => h) (Or.inl ⟨by rfl, ?_⟩) (by assumption) ?_
          rotate_left
          · intro w hSw; (try dsimp only at hSw); go_simp <;> with_reducible rfl
          simp only [Act.put, List.setIfInBounds_toArray, List.set_cons_zero, List.set_cons_succ]
          refine wpAnyH_take (i := 1) (oi := { dst := some 71, op := Op.convert 3 5 (Operand.tmp 70), type := 5, pos := "law.go:217", after := #[{ on := 0, ground := Ground.data }], guard := none }) (v := ?_) rfl (by kernel_rfl) (by kernel_rfl) (by kernel_rfl) (fun _ _ _ h => h) (Or.inl ⟨by rfl, ?_⟩) (by assumption) ?_
          rotate_left
          · intro w hSw; (try dsimp only at hSw); go_simp <;> with_reducible rfl
          simp only [Act.put, List.setIfInBounds_toArray, List.set_cons_zero, List.set_cons_succ]
          refine wpAnyH_take (i := 2) (oi := { dst := some 72, op := Op.load 5 (Operand.tmp 3), type := 5, pos := "law.go:217", after := #[], guard := none }) (v := ?_) rfl (by kernel_rfl) (by kernel_rfl) (by kernel_rfl) (fun _ _ _ h => h) (Or.inl ⟨by rfl, ?_⟩) (by assumption) ?_
          rotate_left
          · intro w hSw; (try dsimp only at hSw); go_simp <;> with_reducible rfl
          simp only [Act.put, List.setIfInBounds_toArray, List.set_cons_zero, List.set_cons_succ]
          refine wpAnyH_take (i := 3) (oi := { dst := some 73, op := Op.binOp BinOp.andNot 5 (Operand.tmp 71) (Operand.tmp 72) 5, type := 5, pos := "law.go:217", after := #[{ on := 1, ground := Ground.data }, { on := 2, ground := Ground.data }], guard := none }) (v := ?_) rfl (by kernel_rfl) (by kernel_rfl) (by kernel_rfl) (fun _ _ _ h => h) (Or.inl ⟨by rfl, ?_⟩) (by assumption) ?_
          rotate_left
          · intro w hSw; (try dsimp only at hSw); go_simp <;> with_reducible rfl
          simp only [Act.put, List.setIfInBounds_toArray, List.set_cons_zero, List.set_cons_succ]
          refine wpAnyH_take (i := 4) (oi := { dst := some 74, op := Op.binOp BinOp.eql 5 (Operand.tmp 73) (Operand.const (Value.int IntKind.u8 0)) 5, type := 4, pos := "law.go:217", after := #[{ on := 3, ground := Ground.data }], guard := none }) (v := ?_) rfl (by kernel_rfl) (by kernel_rfl) (by kernel_rfl) (fun _ _ _ h => h) (Or.inl ⟨by rfl, ?_⟩) (by assumption) ?_
          rotate_left
          · intro w hSw; (try dsimp only at hSw); go_simp <;> with_reducible rfl
          simp only [Act.put, List.setIfInBounds_toArray, List.set_cons_zero, List.set_cons_succ]
          refine wpAnyH_take (i := 5) (oi := { dst := some 75, op := Op.move (Operand.tmp 74), type := 4, pos := "law.go:217", after := #[{ on := 4, ground := Ground.data }], guard := none }) (v := ?_) rfl (by kernel_rfl) (by kernel_rfl) (by kernel_rfl) (fun _ _ _ h => h) (Or.inl ⟨by rfl, ?_⟩) (by assumption) ?_
          rotate_left
          · intro w hSw; (try dsimp only at hSw); go_simp <;> with_reducible rfl
          simp only [Act.put, List.setIfInBounds_toArray, List.set_cons_zero, List.set_cons_succ]
          refine wpAnyH_take (i := 6) (oi := { dst := some 76, op := Op.load 3 (Operand.tmp 8), type := 3, pos := "law.go:217", after := #[{ on := 5, ground := Ground.guard }], guard := some (5, true) }) (v := undef) rfl (by kernel_rfl) (by kernel_rfl) (by kernel_rfl) (fun _ _ _ h => h) (Or.inr ⟨by rfl, rfl⟩) (by assumption) ?_
          simp only [Act.put, List.setIfInBounds_toArray, List.set_cons_zero, List.set_cons_succ]
          refine wpAnyH_take (i := 7) (oi := { dst := some 77, op := Op.convert 3 22 (Operand.tmp 76), type := 22, pos := "law.go:217", after := #[{ on := 6, ground := Ground.data }, { on := 5, ground := Ground.guard }], guard := some (5, true) }) (v := undef) rfl (by kernel_rfl) (by kernel_rfl) (by kernel_rfl) (fun _ _ _ h => h) (Or.inr ⟨by rfl, rfl⟩) (by assumption) ?_
          simp only [Act.put, List.setIfInBounds_toArray, List.set_cons_zero, List.set_cons_succ]
          refine wpAnyH_take (i := 8) (oi := { dst := some 78, op := Op.call { callee := Callee.value (Operand.func 7), args := #[Operand.tmp 77], argTypes := #[22] }, type := 3, pos := "law.go:217", after := #[{ on := 7, ground := Ground.data }, { on := 5, ground := Ground.chain }, { on := 5, ground := Ground.guard }], guard := some (5, true) }) (v := undef) rfl (by kernel_rfl) (by kernel_rfl) (by kernel_rfl) (fun _ _ _ h => h) (Or.inr ⟨by rfl, rfl⟩) (by assumption) ?_
          simp only [Act.put, List.setIfInBounds_toArray, List.set_cons_zero, List.set_cons_succ]
          refine wpAnyH_take (i := 9) (oi := { dst := some 79, op := Op.load 3 (Operand.tmp 6), type := 3, pos := "law.go:217", after := #[{ on := 5, ground := Ground.guard }], guard := some (5, true) }) (v := undef) rfl (by kernel_rfl) (by kernel_rfl) (by kernel_rfl) (fun _ _ _ h => h) (Or.inr ⟨by rfl, rfl⟩) (by assumption) ?_
          simp only [Act.put, List.setIfInBounds_toArray, List.set_cons_zero, List.set_cons_succ]
          refine wpAnyH_take (i := 10) (oi := { dst := some 80, op := Op.binOp BinOp.eql 3 (Operand.tmp 78) (Operand.tmp 79) 3, type := 4, pos := "law.go:217", after := #[{ on := 8, ground := Ground.data }, { on := 9, ground := Ground.data }, { on := 5, ground := Ground.guard }], guard := some (5, true) }) (v := undef) rfl (by kernel_rfl) (by kernel_rfl) (by kernel_rfl) (fun _ _ _ h => h) (Or.inr ⟨by rfl, rfl⟩) (by assumption) ?_
          simp only [Act.put, List.setIfInBounds_toArray, List.set_cons_zero, List.set_cons_succ]
          refine wpAnyH_take (i := 11) (oi := { dst := some 81, op := Op.pick (Operand.tmp 75) (Operand.tmp 80) (Operand.const (Value.bool false)), type := 4, pos := "law.go:217", after := #[{ on := 5, ground := Ground.data }, { on := 10, ground := Ground.data }], guard := none }) (v := ?_) rfl (by kernel_rfl) (by kernel_rfl) (by kernel_rfl) (fun _ _ _ h => h) (Or.inl ⟨by rfl, ?_⟩) (by assumption) ?_
          rotate_left
          · intro w hSw; (try dsimp only at hSw); go_simp <;> with_reducible rfl
          simp only [Act.put, List.setIfInBounds_toArray, List.set_cons_zero, List.set_cons_succ]
          refine wpAnyH_done (by kernel_rfl) ?_ _
          refine NoPanic.normal ?_
          go_wp2
          exact hnext.out _ ((Below.refl _ wr).drew)
      · obtain rfl : a = 256 := by omega
        have hB := hC.out.fr
        have KW := hideW (wakes wr (ht.over hB))
        go_wp2_with (first | (go_at_call 8; refine KW.out.mono ?_; rintro e w7 ⟨rfl, hb7⟩; have bR := bxb8 hC.out.rr hb7; have cR := bR.cell; have fR := bR.frozen))
        have hz7 := hb7.size
        have hKD1 := (Array.getElem?_eq_some_iff.1 hKD.out).1
        have hK7 := (hb7.block D hKD1).trans hKD.out
        have hK8 := (KeepsOthers.setCell w7 ⟨w.heap.size + 1, 0, none⟩ (.bool true)).same D _ hK7 rfl
        have bR2 := (bR.set (.bool true)).kept (grownBy_putObj' _ D (.deferred none)) (by intro e; cases e; omega)
        have cR2 := bR2.cell
        have hBE : Below w.heap.size w (w7.setCell ⟨w.heap.size + 1, 0, none⟩ (.bool true)) := (hB.trans (hb7.mono hB.size)).setCell (p := ⟨w.heap.size + 1, 0, none⟩) (by show w.heap.size ≤ w.heap.size + 1; omega) _
        refine ⟨by simp, .inl ⟨_, _, rfl, run_takeDeferred hK8, ?_⟩⟩
        refine ⟨.bool true, by simp [results, Tryd.results3, go_sem, cR2], rfl, ?_⟩
        exact hBE.trans (belowK_b (w := w) (Nat.le_refl _) _ D _ _ (by omega) hK8 rfl rfl)
  case stop =>
    rintro D c pre V hD hp h _
    exact h.elim
end Go.Proofs.YtjmpkiopnkldmaaDoor
