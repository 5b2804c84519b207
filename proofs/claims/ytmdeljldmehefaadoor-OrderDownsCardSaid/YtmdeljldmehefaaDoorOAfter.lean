/- after: the Down set that comes next, if there is one. -/
import Derived.Test.YtmdeljldmehefaaDoorOReady
namespace Go.Proofs.YtmdeljldmehefaaDoor
open Go.RowKit Go.Shelf
attribute [local go_sem] Oper.semAt_some
/-- All from a on. -/
def upA (a : Nat) : Nat := 18446744073709551616 - 2 ^ a
/-- May s take a? By words. -/
def cnd (Pf : Nat → Nat) (s a : Nat) : Bool := (Pf a &&& upA a) &&& (18446744073709551615 - s) == 0
def nxt (s a : Nat) : Nat := (s &&& upA a) ||| 2 ^ a
def upR (Pf : Nat → Nat) (s a : Nat) : Nat := nxt s a ||| orAll Pf (nums (nxt s a))
theorem upA_lt (a : Nat) : upA a < 18446744073709551616 := by
  unfold upA
  have := Nat.two_pow_pos a
  omega
theorem shl_all (a : Nat) (ha : a < 64) : IntKind.u64.wrap (18446744073709551615 * 2 ^ a) = (upA a : Int) := by
  have h1 : (2 ^ a : Nat) < 18446744073709551616 := Nat.lt_of_lt_of_le (Nat.pow_lt_pow_right (by decide) ha) (by decide)
  have h0 := Nat.two_pow_pos a
  have e : (2 : Int) ^ a = ((2 ^ a : Nat) : Int) := by simp
  unfold upA
  rw [e]
  generalize (2 ^ a : Nat) = q at *
  simp only [IntKind.wrap, IntKind.bits, IntKind.signed]
  simp
  omega
theorem nxt_lt {s a : Nat} (hs : s < 18446744073709551616) (ha : a < 64) : nxt s a < 18446744073709551616 :=
  Nat.or_lt_two_pow (n := 64) (Nat.lt_of_le_of_lt Nat.and_le_left hs) (Nat.lt_of_lt_of_le (Nat.pow_lt_pow_right (by decide) ha) (by decide))
/-- What after answers. -/
def AftR (n : Nat) (Pf : Nat → Nat) (s u : Nat) (b : Bool) : Prop :=
  (b = false ∧ u = 0 ∧ ∀ k ∈ nums ((2 ^ n - 1) &&& (18446744073709551615 - s)), cnd Pf s k.val = false) ∨
  (b = true ∧ ∃ pre k, pre ++ [k] <+: nums ((2 ^ n - 1) &&& (18446744073709551615 - s)) ∧ cnd Pf s k.val = true ∧ (∀ d ∈ pre, cnd Pf s d.val = false) ∧ u = upR Pf s k.val)
theorem keepA {W0 W w1 : World} {b b' : Nat} {u v : Value} (h : W.cell? ⟨b, 0, none⟩ = some u ∧ W.cell? ⟨b', 0, none⟩ = some v ∧ Below W0.heap.size W0 W) (hb : Below W.heap.size W w1) :
    w1.cell? ⟨b, 0, none⟩ = some u ∧ w1.cell? ⟨b', 0, none⟩ = some v ∧ Below W0.heap.size W0 w1 :=
  ⟨cell_over h.1 hb, cell_over h.2.1 hb, h.2.2.trans (hb.mono h.2.2.size)⟩
section
variable {go gp gs n : Nat} {Pf Sf : Nat → Nat} {w : World}
set_option maxRecDepth 100000 in
set_option maxHeartbeats 1000000 in
theorem afterC (ho : OrdAt w go gp gs n Pf Sf) (hn : n ≤ 64) (hP : ∀ a, a < n → Pf a < 18446744073709551616) (s : Nat) (hd : s < 18446744073709551616) (hsn : ∀ k ∈ nums s, k.val < n) (ht : Tab w) :
    CallsIn Fence.wide 9 Tryd.prog 12 #[.pointer (some ⟨go, 0, none⟩), .agg #[.int .u64 s]] w fun e W' => ∃ u b, e = .returned (.tuple #[.agg #[.int .u64 (u : Nat)], .bool b]) ∧ AftR n Pf s u b ∧ Below w.heap.size w W' := by
  have h3 := ht.2
  have hmx : Tryd.prog.follows Departure.mixedOrders = true := by kernel_rfl
  have hal := allw_lt hn
  have hx : ((2 ^ n - 1) &&& (18446744073709551615 - s)) < 18446744073709551616 := Nat.lt_of_le_of_lt Nat.and_le_left hal
  have hin : Hid (∀ k ∈ nums ((2 ^ n - 1) &&& (18446744073709551615 - s)), k.val < n) := fun k => in_all
  have KA : Hid (∀ W, Below w.heap.size w W → Calls Tryd.prog 25 #[.pointer (some ⟨go, 0, none⟩)] W fun e w' => e = .returned (.agg #[.int .u64 ((2 ^ n - 1 : Nat) : Int)]) ∧ Below W.heap.size W w') := fun W hB => allO (ho.over hB) hn
  have KM : Hid _ := minus64 (2 ^ n - 1) s hal hd
  have hA : Hid (∀ u b, AftR n Pf s u b = ((b = false ∧ u = 0 ∧ ∀ k ∈ nums ((2 ^ n - 1) &&& (18446744073709551615 - s)), cnd Pf s k.val = false) ∨
    (b = true ∧ ∃ pre k, pre ++ [k] <+: nums ((2 ^ n - 1) &&& (18446744073709551615 - s)) ∧ cnd Pf s k.val = true ∧ (∀ d ∈ pre, cnd Pf s d.val = false) ∧ u = upR Pf s k.val))) := fun _ _ => rfl
  generalize hxe : ((2 ^ n - 1) &&& (18446744073709551615 - s)) = x at *
  generalize hae : 2 ^ n - 1 = al at *
  clear hxe hae
  refine callsIn_of_wp_marks Tryd.func12 rfl trivial ?_ rfl
  refine wpIn_wide.2 ?_
  simp only [Tryd.ntmps12, List.size_toArray, List.length_cons, List.length_nil, Nat.reduceAdd, Nat.reduceSub, Array.replicate_succ, Array.replicate_zero, List.push_toArray, List.append_toArray, List.nil_append, List.cons_append]
  go_wp2
  have hB0 : Below w.heap.size w ((((w.alloc (.cells #[.pointer (some ⟨go, 0, none⟩)] 27)).alloc (.cells #[.int .u64 s] 44)).alloc (.cells #[.int .u64 0] 44)).alloc (.cells #[.bool false] 4)) := ((((Below.refl _ w).alloc (Nat.le_refl _) _).alloc (by simp) _).alloc (by simp; omega) _).alloc (by simp; omega) _
  have bO := (((Boxed.new w 27 (.pointer (some ⟨go, 0, none⟩))).alloc (.cells #[.int .u64 s] 44)).alloc (.cells #[.int .u64 0] 44)).alloc (.cells #[.bool false] 4)
  have bS := ((Boxed.new (w.alloc (.cells #[.pointer (some ⟨go, 0, none⟩)] 27)) 44 (.int .u64 s)).alloc (.cells #[.int .u64 0] 44)).alloc (.cells #[.bool false] 4)
  have bR := (Boxed.new ((w.alloc (.cells #[.pointer (some ⟨go, 0, none⟩)] 27)).alloc (.cells #[.int .u64 s] 44)) 44 (.int .u64 0)).alloc (.cells #[.bool false] 4)
  have bF := Boxed.new (((w.alloc (.cells #[.pointer (some ⟨go, 0, none⟩)] 27)).alloc (.cells #[.int .u64 s] 44)).alloc (.cells #[.int .u64 0] 44)) 4 (.bool false)
  simp only [World.size_alloc] at bS bR bF
  generalize hW0 : ((((w.alloc (.cells #[.pointer (some ⟨go, 0, none⟩)] 27)).alloc (.cells #[.int .u64 s] 44)).alloc (.cells #[.int .u64 0] 44)).alloc (.cells #[.bool false] 4)) = W0 at *
  have hs0 : w.heap.size + 1 + 1 + 1 < W0.heap.size := by rw [← hW0]; simp
  clear hW0
  have hk0 : Hid (W0.cell? ⟨w.heap.size, 0, none⟩ = some (.pointer (some ⟨go, 0, none⟩)) ∧ W0.cell? ⟨w.heap.size + 1, 0, none⟩ = some (.int .u64 s) ∧ Below W0.heap.size W0 W0) := ⟨bO.cell, bS.cell, Below.refl _ _⟩
  have KA' : Hid (∀ W, Below W0.heap.size W0 W → Calls Tryd.prog 25 #[.pointer (some ⟨go, 0, none⟩)] W fun e w' => e = .returned (.agg #[.int .u64 (al : Int)]) ∧ Below W.heap.size W w') := fun W hB => KA.out W (hB0.trans (hB.mono hB0.size))
  go_region_held3 (fun W => W.cell? ⟨w.heap.size, 0, none⟩ = some (.pointer (some ⟨go, 0, none⟩)) ∧ W.cell? ⟨w.heap.size + 1, 0, none⟩ = some (.int .u64 s) ∧ Below W0.heap.size W0 W) (first | (exact keepA (by assumption) hb) | (exact keepA (keepA hk0.out (Below.refl _ _).drew) hb) | (exact keepA hk0.out (Below.refl _ _).drew) | (exact hk0.out)) (first | (go_at_call 25; refine (KA'.out _ (by first | exact ‹_ ∧ _ ∧ _›.2.2 | exact (Below.refl _ _).drew)).mono ?_; rintro e w1 ⟨rfl, hb⟩) | (go_at_call 27; refine (ofO _ _).mono ?_; rintro e w1 ⟨rfl, hb⟩) | (go_at_call 26; refine (KM.out _).mono ?_; rintro e w1 ⟨rfl, hb⟩) | (go_at_call 20; refine (allSeq x _).mono ?_; rintro e w1 ⟨bb, rfl, hbox, hbb, hb⟩; have hq : W0.heap.size ≤ bb := Nat.le_trans (Below.size ‹_ ∧ _ ∧ _›.2.2) hbb))
  all_goals go_wp2
  have hS := ‹w1.cell? ⟨w.heap.size, 0, none⟩ = some (.pointer (some ⟨go, 0, none⟩)) ∧ w1.cell? ⟨w.heap.size + 1, 0, none⟩ = some (.int .u64 s) ∧ Below W0.heap.size W0 w1›.2.2
  have hB1 : Below w.heap.size w w1 := hB0.trans (hS.mono hB0.size)
  have bO1 := bxb bO hS (by omega)
  have bS1 := bxb bS hS (by omega)
  have bR1 := bxb bR hS (by omega)
  have bF1 := bxb bF hS (by omega)
  have z1 := hbox.lt
  clear KA KA' KM hS bO bS bR bF hb hk0 hal hbb
  refine (wpIn_wide (n := 9)).1 ?_
  refine wpIn_rangeFunc_ownG rfl (by decide) (gf := 36) (lb := #[.pointer (some ⟨bb, 0, none⟩)]) rfl trivial (enters_of Tryd.func36 (by kernel_rfl) rfl)
    (all_mem 8 bb x hx w1 z1 (ht.over hB1) hbox.cell) KpB.t (KpB.b z1 (by omega)) (Below.refl _ _) (fun _ => rfl)
    (fun pre W => Boxed W w.heap.size 27 (.pointer (some ⟨go, 0, none⟩)) ∧ Boxed W (w.heap.size + 1) 44 (.int .u64 s) ∧ Boxed W (w.heap.size + 1 + 1) 44 (.int .u64 0) ∧ Boxed W (w.heap.size + 1 + 1 + 1) 4 (.bool false) ∧ Boxed W bb 44 (.int .u64 x) ∧ Below w.heap.size w W ∧ Hid (∀ j ∈ pre, cnd Pf s j.val.val = false))
    (fun c pre W => c = .ret ∧ Below w.heap.size w W ∧ ∃ (p : List (In x)) (k : In x), pre = p ++ [k] ∧ Boxed W (w.heap.size + 1 + 1) 44 (.int .u64 (upR Pf s k.val.val : Nat)) ∧ Boxed W (w.heap.size + 1 + 1 + 1) 4 (.bool true) ∧ cnd Pf s k.val.val = true ∧ (∀ j ∈ p, cnd Pf s j.val.val = false))
    (OwnFrom.and (Own.from (boxed_own _ _ _) _) (OwnFrom.and (Own.from (boxed_own _ _ _) _) (OwnFrom.and (Own.from (boxed_own _ _ _) _) (OwnFrom.and (Own.from (boxed_own _ _ _) _) (OwnFrom.and (Own.from (boxed_own _ _ _) _) (OwnFrom.and (ownFrom_below (Nat.le_refl _) (by omega)) (fun _ _ _ _ h _ _ => h)))))))
    (fun c pre W W' row h hg hr => ⟨h.1, (ownFrom_below (β := Unit) (Nat.le_refl w.heap.size) (by omega)) () W W' row h.2.1 hg hr, by
      obtain ⟨p, k, h1, h2, h3, h4⟩ := h.2.2
      exact ⟨p, k, h1, (Own.from (boxed_own (β := Unit) _ _ (fun _ => _)) w.heap.size) () W W' row h2 hg (fun r e => ⟨by have := (hr r e).1; omega, (hr r e).2⟩), (Own.from (boxed_own (β := Unit) _ _ (fun _ => _)) w.heap.size) () W W' row h3 hg (fun r e => ⟨by have := (hr r e).1; omega, (hr r e).2⟩), h4⟩⟩)
    ⟨bO1, bS1, bR1, bF1, hbox, hB1, fun j h => by cases h⟩
    ?a1 ?assign ?body ?done ?stop
  case assign =>
    intro l j W K hK
    gi_wp2
    exact hK
  case body =>
    rintro l pre k W ⟨b0, b1, b2, b3, b4, hB, hpl⟩ hlt
    have hkn := hin.out k.val k.property
    have hk64 := k.val.isLt
    have hWs := hB.size
    have z4 := b4.lt
    have hup := shl_all k.val.val hk64
    have hpk := hP k.val.val hkn
    have hpw : (2 ^ k.val.val : Nat) < 18446744073709551616 := Nat.lt_of_lt_of_le (Nat.pow_lt_pow_right (by decide) hk64) (by decide)
    have hul := upA_lt k.val.val
    have KN := hide' (and64 (Pf k.val.val) (upA k.val.val) hpk hul)
    have KS := sub64 (Pf k.val.val &&& upA k.val.val) s (Nat.lt_of_le_of_lt Nat.and_le_left hpk) hd
    have KP := hide' (and64 s (upA k.val.val) hd hul)
    have KY := hide' (onlyO k.val.val hk64)
    have KO := hide' (or64 (s &&& upA k.val.val) (2 ^ k.val.val) (Nat.lt_of_le_of_lt Nat.and_le_left hd) hpw)
    have hnx := nxt_lt hd hk64
    have hnin : ∀ j ∈ nums (nxt s k.val.val), j.val < n := fun j hj => by
      rw [mem_nums] at hj
      unfold nxt at hj
      rw [Nat.testBit_or, Nat.testBit_and, Nat.testBit_two_pow, Bool.or_eq_true, Bool.and_eq_true] at hj
      rcases hj with ⟨h, _⟩ | h
      · exact hsn j ((mem_nums s j).2 h)
      · have := of_decide_eq_true h; omega
    have KH : Hid (∀ V, Below w.heap.size w V → Calls Tryd.prog 30 #[.pointer (some ⟨go, 0, none⟩), .agg #[.int .u64 (nxt s k.val.val : Nat)]] V fun e V' => e = .returned (.agg #[.int .u64 (orAll Pf (nums (nxt s k.val.val)) : Int)]) ∧ Below V.heap.size V V') := fun V hV => aheadO (ho.over hV) hP _ hnx hnin (ht.over hV)
    have KQ := hide' (or64 (nxt s k.val.val) (orAll Pf (nums (nxt s k.val.val))) hnx (orAll_lt fun j hj => hP _ (hnin j hj)))
    have hcn : Hid (cnd Pf s k.val.val = ((Pf k.val.val &&& upA k.val.val) &&& (18446744073709551615 - s) == 0)) := rfl
    have hur : Hid (upR Pf s k.val.val = nxt s k.val.val ||| orAll Pf (nums (nxt s k.val.val))) := rfl
    rw [show (s &&& upA k.val.val) ||| 2 ^ k.val.val = nxt s k.val.val from rfl] at KO
    have cO := cell_over ho.o0 hB
    have cK := cell_over (ho.pc k.val.val hkn) hB
    generalize hcd : cnd Pf s k.val.val = cd at *
    generalize hue : upR Pf s k.val.val = ur at *
    have hcd' := hide' hcd
    have hue' := hide' hue
    clear hcd hue
    generalize orAll Pf (nums (nxt s k.val.val)) = oo at *
    generalize nxt s k.val.val = nx at *
    generalize ((Pf k.val.val &&& upA k.val.val) &&& (18446744073709551615 - s) == 0) = t at *
    generalize hpu : Pf k.val.val &&& upA k.val.val = pu at *
    generalize Pf k.val.val = pk at *
    generalize hsu : s &&& upA k.val.val = su at *
    generalize upA k.val.val = up at *
    generalize 2 ^ k.val.val = pw at *
    generalize hkk : k.val.val = kk at *
    have hkk' := hide' hkk
    clear hpu hsu hkk ho hP hin hlt hx hnin hsn hbox bO1 bS1 bR1 bF1
    gi_wp2_with (refine ⟨trivial, ?_⟩; gi_at_call 27; refine (CallsIn.inRound l (callsIn_wide.2 (ofO _ _))).mono ?_; rintro e w2 ⟨rfl, hb2⟩)
    have hB3 : Below W.heap.size W (w2.alloc (.cells #[.int .u64 up] 44)) := hb2.alloc hb2.size _
    have bU := Boxed.new w2 44 (.int .u64 up)
    have hbu := hb2.size
    generalize w2.alloc (.cells #[.int .u64 up] 44) = W3 at *
    generalize w2.heap.size = bu at *
    have hz3 := hB3.size
    have c0 := (bxb b0 hB3 (by omega)).cell
    have c1 := cell_over cO hB3
    have c2 := cell_over cK hB3
    have c3 := (bxb b1 hB3 (by omega)).cell
    have c4 := bU.cell
    have zu := bU.lt
    cases t with
    | false =>
      have KS' := hide' KS
      clear KS
      refine region_round (fun V => V.cell? ⟨w.heap.size, 0, none⟩ = some (.pointer (some ⟨go, 0, none⟩)) ∧ V.cell? ⟨go, 0, none⟩ = some (.slice (some ⟨gp, 0, none⟩) n n) ∧ V.cell? ⟨gp, kk, none⟩ = some (.int .u64 (pk : Int)) ∧ V.cell? ⟨w.heap.size + 1, 0, none⟩ = some (.int .u64 (s : Int)) ∧ V.cell? ⟨bu, 0, none⟩ = some (.int .u64 (up : Int)) ∧ Below W3.heap.size W3 V) hmx (noDefer_of (by kernel_rfl)) ?_ (fun hHeld => ?_)
      · exact ⟨c0, c1, c2, c3, c4, (Below.refl _ _).drew⟩
      refine wpAnyH_take (i := 0) (oi := { dst := some 18, op := Op.load 27 (Operand.tmp 2), type := 27, pos := "sets.go:53", after := #[], guard := none }) (v := ?_) rfl (by kernel_rfl) (by kernel_rfl) (by kernel_rfl) (fun _ _ _ h => h) (Or.inl ⟨by rfl, ?_⟩) (by assumption) ?_
      rotate_left
      · intro w hSw; (try dsimp only at hSw); go_simp <;> with_reducible rfl
      simp only [Act.put, List.setIfInBounds_toArray, List.set_cons_zero, List.set_cons_succ]
      refine wpAnyH_take (i := 1) (oi := { dst := some 19, op := Op.nilCheck (Operand.tmp 18), type := 0, pos := "sets.go:53", after := #[{ on := 0, ground := Ground.data }], guard := none }) (v := ?_) rfl (by kernel_rfl) (by kernel_rfl) (by kernel_rfl) (fun _ _ _ h => h) (Or.inl ⟨by rfl, ?_⟩) (by assumption) ?_
      rotate_left
      · intro w hSw; (try dsimp only at hSw); go_simp <;> with_reducible rfl
      simp only [Act.put, List.setIfInBounds_toArray, List.set_cons_zero, List.set_cons_succ]
      refine wpAnyH_take (i := 2) (oi := { dst := some 20, op := Op.fieldAddr 56 (Operand.tmp 19) 0, type := 0, pos := "sets.go:53", after := #[{ on := 1, ground := Ground.data }], guard := none }) (v := ?_) rfl (by kernel_rfl) (by kernel_rfl) (by kernel_rfl) (fun _ _ _ h => h) (Or.inl ⟨by rfl, ?_⟩) (by assumption) ?_
      rotate_left
      · intro w hSw; (try dsimp only at hSw); go_simp <;> with_reducible rfl
      simp only [Act.put, List.setIfInBounds_toArray, List.set_cons_zero, List.set_cons_succ]
      refine wpAnyH_take (i := 3) (oi := { dst := some 21, op := Op.load 54 (Operand.tmp 20), type := 54, pos := "sets.go:53", after := #[{ on := 2, ground := Ground.data }], guard := none }) (v := ?_) rfl (by kernel_rfl) (by kernel_rfl) (by kernel_rfl) (fun _ _ _ h => h) (Or.inl ⟨by rfl, ?_⟩) (by assumption) ?_
      rotate_left
      · intro w hSw; (try dsimp only at hSw); go_simp <;> with_reducible rfl
      simp only [Act.put, List.setIfInBounds_toArray, List.set_cons_zero, List.set_cons_succ]
      refine wpAnyH_take (i := 4) (oi := { dst := some 22, op := Op.move (Operand.tmp 6), type := 3, pos := "sets.go:53", after := #[], guard := none }) (v := ?_) rfl (by kernel_rfl) (by kernel_rfl) (by kernel_rfl) (fun _ _ _ h => h) (Or.inl ⟨by rfl, ?_⟩) (by assumption) ?_
      rotate_left
      · intro w hSw; (try dsimp only at hSw); go_simp <;> with_reducible rfl
      simp only [Act.put, List.setIfInBounds_toArray, List.set_cons_zero, List.set_cons_succ]
      refine wpAnyH_take (i := 5) (oi := { dst := some 23, op := Op.indexAddr 54 (Operand.tmp 21) (Operand.tmp 22), type := 0, pos := "sets.go:53", after := #[{ on := 3, ground := Ground.data }, { on := 4, ground := Ground.data }], guard := none }) (v := ?_) rfl (by kernel_rfl) (by kernel_rfl) (by kernel_rfl) (fun _ _ _ h => h) (Or.inl ⟨by rfl, ?_⟩) (by assumption) ?_
      rotate_left
      · intro w hSw; (try dsimp only at hSw); go_simp <;> with_reducible rfl
      simp only [Act.put, List.setIfInBounds_toArray, List.set_cons_zero, List.set_cons_succ]
      refine wpAnyH_take (i := 6) (oi := { dst := some 24, op := Op.load 44 (Operand.tmp 23), type := 44, pos := "sets.go:53", after := #[{ on := 5, ground := Ground.data }], guard := none }) (v := ?_) rfl (by kernel_rfl) (by kernel_rfl) (by kernel_rfl) (fun _ _ _ h => h) (Or.inl ⟨by rfl, ?_⟩) (by assumption) ?_
      rotate_left
      · intro w hSw; (try dsimp only at hSw); go_simp <;> with_reducible rfl
      simp only [Act.put, List.setIfInBounds_toArray, List.set_cons_zero, List.set_cons_succ]
      refine wpAnyH_take (i := 7) (oi := { dst := some 25, op := Op.load 44 (Operand.tmp 7), type := 44, pos := "sets.go:53", after := #[], guard := none }) (v := ?_) rfl (by kernel_rfl) (by kernel_rfl) (by kernel_rfl) (fun _ _ _ h => h) (Or.inl ⟨by rfl, ?_⟩) (by assumption) ?_
      rotate_left
      · intro w hSw; (try dsimp only at hSw); go_simp <;> with_reducible rfl
      simp only [Act.put, List.setIfInBounds_toArray, List.set_cons_zero, List.set_cons_succ]
      refine wpAnyH_take (i := 9) (oi := { dst := some 27, op := Op.load 44 (Operand.tmp 3), type := 44, pos := "sets.go:53", after := #[], guard := none }) (v := ?_) rfl (by kernel_rfl) (by kernel_rfl) (by kernel_rfl) (fun _ _ _ h => h) (Or.inl ⟨by rfl, ?_⟩) (by assumption) ?_
      rotate_left
      · intro w hSw; (try dsimp only at hSw); go_simp <;> with_reducible rfl
      simp only [Act.put, List.setIfInBounds_toArray, List.set_cons_zero, List.set_cons_succ]
      refine wpAnyH_ready (rs := [8]) (by kernel_rfl) (by simp) ?_
      refine AllReadyH.cons (o := { dst := some 26, op := Op.call { callee := Callee.value (Operand.func 28), args := #[Operand.tmp 24, Operand.tmp 25], argTypes := #[44, 44] }, type := 44, pos := "sets.go:53", after := #[{ on := 6, ground := Ground.data }, { on := 7, ground := Ground.data }], guard := none }) rfl (fun K hK => ?_) AllReadyH.nil
      go_simp
      refine (KN.out _).mono ?_; rintro e w4 ⟨rfl, hb⟩; (try dsimp only)
      refine hK.out _ _ ?_ (fun hHeld => ?_)
      · exact ⟨cell_over hHeld.1 hb, cell_over hHeld.2.1 hb, cell_over hHeld.2.2.1 hb, cell_over hHeld.2.2.2.1 hb, cell_over hHeld.2.2.2.2.1 hb, hHeld.2.2.2.2.2.trans (hb.mono hHeld.2.2.2.2.2.size)⟩
      clear hK K
      try simp only [Act.put, List.setIfInBounds_toArray, List.set_cons_zero, List.set_cons_succ]
      refine wpAnyH_ready (rs := [10]) (by kernel_rfl) (by simp) ?_
      refine AllReadyH.cons (o := { dst := some 28, op := Op.call { callee := Callee.value (Operand.func 29), args := #[Operand.tmp 26, Operand.tmp 27], argTypes := #[44, 44] }, type := 4, pos := "sets.go:53", after := #[{ on := 8, ground := Ground.data }, { on := 9, ground := Ground.data }, { on := 8, ground := Ground.chain }], guard := none }) rfl (fun K hK => ?_) AllReadyH.nil
      go_simp
      refine (KS'.out _).mono ?_; rintro e w5 ⟨rfl, hb⟩; (try dsimp only)
      refine hK.out _ _ ?_ (fun hHeld => ?_)
      · exact ⟨cell_over hHeld.1 hb, cell_over hHeld.2.1 hb, cell_over hHeld.2.2.1 hb, cell_over hHeld.2.2.2.1 hb, cell_over hHeld.2.2.2.2.1 hb, hHeld.2.2.2.2.2.trans (hb.mono hHeld.2.2.2.2.2.size)⟩
      clear hK K
      try simp only [Act.put, List.setIfInBounds_toArray, List.set_cons_zero, List.set_cons_succ]
      refine wpAnyH_done (by kernel_rfl) ?_ _
      unfold onlyNormal
      gi_wp2
      have hBV : Below W3.heap.size W3 w5 := hHeld.2.2.2.2.2
      have hT := hB3.trans (hBV.mono hB3.size)
      exact ⟨(keepsO hT).from _, ⟨hT.cell (p := ⟨bb, 0, none⟩) z4, fun h => h.over hT⟩, bxb b0 hT (by omega), bxb b1 hT (by omega), bxb b2 hT (by omega), bxb b3 hT (by omega), bxb b4 hT z4, hB.trans (hT.mono hWs), fun j hj => by
        rcases List.mem_append.1 hj with h | h
        · exact hpl.out j h
        · rw [List.mem_singleton.1 h, hkk'.out, hcd'.out, hcn.out]⟩
    | true =>
      have KS' := hide' KS
      clear KS
      refine region_round (fun V => V.cell? ⟨w.heap.size, 0, none⟩ = some (.pointer (some ⟨go, 0, none⟩)) ∧ V.cell? ⟨go, 0, none⟩ = some (.slice (some ⟨gp, 0, none⟩) n n) ∧ V.cell? ⟨gp, kk, none⟩ = some (.int .u64 (pk : Int)) ∧ V.cell? ⟨w.heap.size + 1, 0, none⟩ = some (.int .u64 (s : Int)) ∧ V.cell? ⟨bu, 0, none⟩ = some (.int .u64 (up : Int)) ∧ Below W3.heap.size W3 V) hmx (noDefer_of (by kernel_rfl)) ?_ (fun hHeld => ?_)
      · exact ⟨c0, c1, c2, c3, c4, (Below.refl _ _).drew⟩
      refine wpAnyH_take (i := 0) (oi := { dst := some 18, op := Op.load 27 (Operand.tmp 2), type := 27, pos := "sets.go:53", after := #[], guard := none }) (v := ?_) rfl (by kernel_rfl) (by kernel_rfl) (by kernel_rfl) (fun _ _ _ h => h) (Or.inl ⟨by rfl, ?_⟩) (by assumption) ?_
      rotate_left
      · intro w hSw; (try dsimp only at hSw); go_simp <;> with_reducible rfl
      simp only [Act.put, List.setIfInBounds_toArray, List.set_cons_zero, List.set_cons_succ]
      refine wpAnyH_take (i := 1) (oi := { dst := some 19, op := Op.nilCheck (Operand.tmp 18), type := 0, pos := "sets.go:53", after := #[{ on := 0, ground := Ground.data }], guard := none }) (v := ?_) rfl (by kernel_rfl) (by kernel_rfl) (by kernel_rfl) (fun _ _ _ h => h) (Or.inl ⟨by rfl, ?_⟩) (by assumption) ?_
      rotate_left
      · intro w hSw; (try dsimp only at hSw); go_simp <;> with_reducible rfl
      simp only [Act.put, List.setIfInBounds_toArray, List.set_cons_zero, List.set_cons_succ]
      refine wpAnyH_take (i := 2) (oi := { dst := some 20, op := Op.fieldAddr 56 (Operand.tmp 19) 0, type := 0, pos := "sets.go:53", after := #[{ on := 1, ground := Ground.data }], guard := none }) (v := ?_) rfl (by kernel_rfl) (by kernel_rfl) (by kernel_rfl) (fun _ _ _ h => h) (Or.inl ⟨by rfl, ?_⟩) (by assumption) ?_
      rotate_left
      · intro w hSw; (try dsimp only at hSw); go_simp <;> with_reducible rfl
      simp only [Act.put, List.setIfInBounds_toArray, List.set_cons_zero, List.set_cons_succ]
      refine wpAnyH_take (i := 3) (oi := { dst := some 21, op := Op.load 54 (Operand.tmp 20), type := 54, pos := "sets.go:53", after := #[{ on := 2, ground := Ground.data }], guard := none }) (v := ?_) rfl (by kernel_rfl) (by kernel_rfl) (by kernel_rfl) (fun _ _ _ h => h) (Or.inl ⟨by rfl, ?_⟩) (by assumption) ?_
      rotate_left
      · intro w hSw; (try dsimp only at hSw); go_simp <;> with_reducible rfl
      simp only [Act.put, List.setIfInBounds_toArray, List.set_cons_zero, List.set_cons_succ]
      refine wpAnyH_take (i := 4) (oi := { dst := some 22, op := Op.move (Operand.tmp 6), type := 3, pos := "sets.go:53", after := #[], guard := none }) (v := ?_) rfl (by kernel_rfl) (by kernel_rfl) (by kernel_rfl) (fun _ _ _ h => h) (Or.inl ⟨by rfl, ?_⟩) (by assumption) ?_
      rotate_left
      · intro w hSw; (try dsimp only at hSw); go_simp <;> with_reducible rfl
      simp only [Act.put, List.setIfInBounds_toArray, List.set_cons_zero, List.set_cons_succ]
      refine wpAnyH_take (i := 5) (oi := { dst := some 23, op := Op.indexAddr 54 (Operand.tmp 21) (Operand.tmp 22), type := 0, pos := "sets.go:53", after := #[{ on := 3, ground := Ground.data }, { on := 4, ground := Ground.data }], guard := none }) (v := ?_) rfl (by kernel_rfl) (by kernel_rfl) (by kernel_rfl) (fun _ _ _ h => h) (Or.inl ⟨by rfl, ?_⟩) (by assumption) ?_
      rotate_left
      · intro w hSw; (try dsimp only at hSw); go_simp <;> with_reducible rfl
      simp only [Act.put, List.setIfInBounds_toArray, List.set_cons_zero, List.set_cons_succ]
      refine wpAnyH_take (i := 6) (oi := { dst := some 24, op := Op.load 44 (Operand.tmp 23), type := 44, pos := "sets.go:53", after := #[{ on := 5, ground := Ground.data }], guard := none }) (v := ?_) rfl (by kernel_rfl) (by kernel_rfl) (by kernel_rfl) (fun _ _ _ h => h) (Or.inl ⟨by rfl, ?_⟩) (by assumption) ?_
      rotate_left
      · intro w hSw; (try dsimp only at hSw); go_simp <;> with_reducible rfl
      simp only [Act.put, List.setIfInBounds_toArray, List.set_cons_zero, List.set_cons_succ]
      refine wpAnyH_take (i := 7) (oi := { dst := some 25, op := Op.load 44 (Operand.tmp 7), type := 44, pos := "sets.go:53", after := #[], guard := none }) (v := ?_) rfl (by kernel_rfl) (by kernel_rfl) (by kernel_rfl) (fun _ _ _ h => h) (Or.inl ⟨by rfl, ?_⟩) (by assumption) ?_
      rotate_left
      · intro w hSw; (try dsimp only at hSw); go_simp <;> with_reducible rfl
      simp only [Act.put, List.setIfInBounds_toArray, List.set_cons_zero, List.set_cons_succ]
      refine wpAnyH_take (i := 9) (oi := { dst := some 27, op := Op.load 44 (Operand.tmp 3), type := 44, pos := "sets.go:53", after := #[], guard := none }) (v := ?_) rfl (by kernel_rfl) (by kernel_rfl) (by kernel_rfl) (fun _ _ _ h => h) (Or.inl ⟨by rfl, ?_⟩) (by assumption) ?_
      rotate_left
      · intro w hSw; (try dsimp only at hSw); go_simp <;> with_reducible rfl
      simp only [Act.put, List.setIfInBounds_toArray, List.set_cons_zero, List.set_cons_succ]
      refine wpAnyH_ready (rs := [8]) (by kernel_rfl) (by simp) ?_
      refine AllReadyH.cons (o := { dst := some 26, op := Op.call { callee := Callee.value (Operand.func 28), args := #[Operand.tmp 24, Operand.tmp 25], argTypes := #[44, 44] }, type := 44, pos := "sets.go:53", after := #[{ on := 6, ground := Ground.data }, { on := 7, ground := Ground.data }], guard := none }) rfl (fun K hK => ?_) AllReadyH.nil
      go_simp
      refine (KN.out _).mono ?_; rintro e w4 ⟨rfl, hb⟩; (try dsimp only)
      refine hK.out _ _ ?_ (fun hHeld => ?_)
      · exact ⟨cell_over hHeld.1 hb, cell_over hHeld.2.1 hb, cell_over hHeld.2.2.1 hb, cell_over hHeld.2.2.2.1 hb, cell_over hHeld.2.2.2.2.1 hb, hHeld.2.2.2.2.2.trans (hb.mono hHeld.2.2.2.2.2.size)⟩
      clear hK K
      try simp only [Act.put, List.setIfInBounds_toArray, List.set_cons_zero, List.set_cons_succ]
      refine wpAnyH_ready (rs := [10]) (by kernel_rfl) (by simp) ?_
      refine AllReadyH.cons (o := { dst := some 28, op := Op.call { callee := Callee.value (Operand.func 29), args := #[Operand.tmp 26, Operand.tmp 27], argTypes := #[44, 44] }, type := 4, pos := "sets.go:53", after := #[{ on := 8, ground := Ground.data }, { on := 9, ground := Ground.data }, { on := 8, ground := Ground.chain }], guard := none }) rfl (fun K hK => ?_) AllReadyH.nil
      go_simp
      refine (KS'.out _).mono ?_; rintro e w5 ⟨rfl, hb⟩; (try dsimp only)
      refine hK.out _ _ ?_ (fun hHeld => ?_)
      · exact ⟨cell_over hHeld.1 hb, cell_over hHeld.2.1 hb, cell_over hHeld.2.2.1 hb, cell_over hHeld.2.2.2.1 hb, cell_over hHeld.2.2.2.2.1 hb, hHeld.2.2.2.2.2.trans (hb.mono hHeld.2.2.2.2.2.size)⟩
      clear hK K
      try simp only [Act.put, List.setIfInBounds_toArray, List.set_cons_zero, List.set_cons_succ]
      refine wpAnyH_done (by kernel_rfl) ?_ _
      unfold onlyNormal
      have hBV : Below W3.heap.size W3 w5 := hHeld.2.2.2.2.2
      have hT := hB3.trans (hBV.mono hB3.size)
      have z5 := hT.size
      have e3 := hHeld.2.2.2.1
      have e4 := hHeld.2.2.2.2.1
      clear hHeld KS' KN c0 c1 c2 c3 c4
      gi_wp2_with (first | (refine ⟨trivial, ?_⟩; gi_at_call 28; refine (CallsIn.inRound l (callsIn_wide.2 (KP.out _))).mono ?_; rintro e w6 ⟨rfl, hb6⟩) | (refine ⟨trivial, ?_⟩; gi_at_call 17; refine (CallsIn.inRound l (callsIn_wide.2 (KY.out _))).mono ?_; rintro e w7 ⟨rfl, hb7⟩) | (refine ⟨trivial, ?_⟩; gi_at_call 16; refine (CallsIn.inRound l (callsIn_wide.2 (KO.out _))).mono ?_; rintro e wa ⟨rfl, hba⟩))
      have hT7 := hT.trans (((hb6.trans (hb7.mono hb6.size)).trans (hba.mono (hb6.trans (hb7.mono hb6.size)).size)).mono hT.size)
      have hB6 : Below W.heap.size W (wa.alloc (.cells #[.int .u64 nx] 44)) := hT7.alloc hT7.size _
      have bX := Boxed.new wa 44 (.int .u64 nx)
      have hbx := hT7.size
      generalize wa.alloc (.cells #[.int .u64 nx] 44) = W6 at *
      generalize wa.heap.size = bx at *
      have hz6 := hB6.size
      have b06 := bxb b0 hB6 (by omega)
      have b26 := bxb b2 hB6 (by omega)
      have b36 := bxb b3 hB6 (by omega)
      have c6 := b06.cell
      have cx := bX.cell
      have zx := bX.lt
      have hBW6 : Below w.heap.size w W6.drew := hB.trans ((hB6.drew).mono hWs)
      have hs6 : W6.drew.cell? ⟨w.heap.size, 0, none⟩ = some (.pointer (some ⟨go, 0, none⟩)) ∧ W6.drew.cell? ⟨bx, 0, none⟩ = some (.int .u64 (nx : Int)) ∧ (∃ u, W6.drew.cell? ⟨w.heap.size + 1 + 1, 0, none⟩ = some u) ∧ W6.drew.frozen? ⟨w.heap.size + 1 + 1, 0, none⟩ = false ∧ (∃ u, W6.drew.cell? ⟨w.heap.size + 1 + 1 + 1, 0, none⟩ = some u) ∧ W6.drew.frozen? ⟨w.heap.size + 1 + 1 + 1, 0, none⟩ = false := ⟨c6, cx, ⟨_, b26.cell⟩, b26.frozen, ⟨_, b36.cell⟩, b36.frozen⟩
      clear KP KY KO hb6 hb7 hba hT7 hT e3 e4 hBV
      refine region_round (fun V => V.cell? ⟨w.heap.size, 0, none⟩ = some (.pointer (some ⟨go, 0, none⟩)) ∧ V.cell? ⟨bx, 0, none⟩ = some (.int .u64 (nx : Int)) ∧ (∃ u, V.cell? ⟨w.heap.size + 1 + 1, 0, none⟩ = some u) ∧ V.frozen? ⟨w.heap.size + 1 + 1, 0, none⟩ = false ∧ (∃ u, V.cell? ⟨w.heap.size + 1 + 1 + 1, 0, none⟩ = some u) ∧ V.frozen? ⟨w.heap.size + 1 + 1 + 1, 0, none⟩ = false) hmx (noDefer_of (by kernel_rfl)) ?_ (fun hHeld => ?_)
      · exact hs6
      refine wpAnyH_take (i := 0) (oi := { dst := some 35, op := Op.load 44 (Operand.tmp 8), type := 44, pos := "sets.go:55", after := #[], guard := none }) (v := ?_) rfl (by kernel_rfl) (by kernel_rfl) (by kernel_rfl) (fun _ _ _ h => h) (Or.inl ⟨by rfl, ?_⟩) (by assumption) ?_
      rotate_left
      · intro w hSw; (try dsimp only at hSw); go_simp <;> with_reducible rfl
      simp only [Act.put, List.setIfInBounds_toArray, List.set_cons_zero, List.set_cons_succ]
      refine wpAnyH_take (i := 1) (oi := { dst := some 36, op := Op.load 27 (Operand.tmp 2), type := 27, pos := "sets.go:55", after := #[], guard := none }) (v := ?_) rfl (by kernel_rfl) (by kernel_rfl) (by kernel_rfl) (fun _ _ _ h => h) (Or.inl ⟨by rfl, ?_⟩) (by assumption) ?_
      rotate_left
      · intro w hSw; (try dsimp only at hSw); go_simp <;> with_reducible rfl
      simp only [Act.put, List.setIfInBounds_toArray, List.set_cons_zero, List.set_cons_succ]
      refine wpAnyH_take (i := 2) (oi := { dst := some 37, op := Op.load 44 (Operand.tmp 8), type := 44, pos := "sets.go:55", after := #[], guard := none }) (v := ?_) rfl (by kernel_rfl) (by kernel_rfl) (by kernel_rfl) (fun _ _ _ h => h) (Or.inl ⟨by rfl, ?_⟩) (by assumption) ?_
      rotate_left
      · intro w hSw; (try dsimp only at hSw); go_simp <;> with_reducible rfl
      simp only [Act.put, List.setIfInBounds_toArray, List.set_cons_zero, List.set_cons_succ]
      refine wpAnyH_ready (rs := [3]) (by kernel_rfl) (by simp) ?_
      refine AllReadyH.cons (o := { dst := some 38, op := Op.call { callee := Callee.value (Operand.func 30), args := #[Operand.tmp 36, Operand.tmp 37], argTypes := #[27, 44] }, type := 44, pos := "sets.go:55", after := #[{ on := 1, ground := Ground.data }, { on := 2, ground := Ground.data }], guard := none }) rfl (fun K hK => ?_) AllReadyH.nil
      go_simp
      refine (KH.out _ hBW6).mono ?_; rintro e w8 ⟨rfl, hb⟩; (try dsimp only); have hB8 : Below W6.heap.size W6 w8 := ((Below.refl _ W6).drew).trans hb; have e0 := cell_over c6 hB8; have e1 := cell_over cx hB8; have bA8 := bxb b26 hB8 (by omega); have bB8 := bxb b36 hB8 (by omega); have cA8 := bA8.cell; have fA8 := bA8.frozen; have cB8 := bB8.cell; have fB8 := bB8.frozen
      refine hK.out _ _ ?_ (fun hHeld => ?_)
      · exact ⟨e0, e1, ⟨_, cA8⟩, fA8, ⟨_, cB8⟩, fB8⟩
      clear hK K
      try simp only [Act.put, List.setIfInBounds_toArray, List.set_cons_zero, List.set_cons_succ]
      refine wpAnyH_ready (rs := [4]) (by kernel_rfl) (by simp) ?_
      refine AllReadyH.cons (o := { dst := some 39, op := Op.call { callee := Callee.value (Operand.func 16), args := #[Operand.tmp 35, Operand.tmp 38], argTypes := #[44, 44] }, type := 44, pos := "sets.go:55", after := #[{ on := 0, ground := Ground.data }, { on := 3, ground := Ground.data }, { on := 3, ground := Ground.chain }], guard := none }) rfl (fun K hK => ?_) AllReadyH.nil
      go_simp
      refine (KQ.out _).mono ?_; rintro e w9 ⟨rfl, hb9⟩; (try dsimp only); have hB9 : Below W6.heap.size W6 w9 := hB8.trans (hb9.mono hB8.size); have e0 := cell_over c6 hB9; have e1 := cell_over cx hB9; have bO9 := bxb b06 hB9 (by omega); have bX9 := bxb bX hB9 zx; have bA9 := bxb b26 hB9 (by omega); have bB9 := bxb b36 hB9 (by omega); have cA9 := bA9.cell; have fA9 := bA9.frozen; have cB9 := bB9.cell; have fB9 := bB9.frozen
      refine hK.out _ _ ?_ (fun hHeld => ?_)
      · exact ⟨e0, e1, ⟨_, cA9⟩, fA9, ⟨_, cB9⟩, fB9⟩
      clear hK K
      try simp only [Act.put, List.setIfInBounds_toArray, List.set_cons_zero, List.set_cons_succ]
      refine wpAnyH_ready (rs := [5]) (by kernel_rfl) (by simp) ?_
      refine AllReadyH.cons (o := { dst := none, op := Op.store 44 (Operand.tmp 4) (Operand.tmp 39), type := 0, pos := "sets.go:55", after := #[{ on := 4, ground := Ground.data }, { on := 4, ground := Ground.chain }, { on := 0, ground := Ground.phase }, { on := 1, ground := Ground.phase }, { on := 2, ground := Ground.phase }, { on := 3, ground := Ground.phase }, { on := 4, ground := Ground.phase }], guard := none }) rfl (fun K hK => ?_) AllReadyH.nil
      go_simp
      have bO10 := bO9.other (B' := w.heap.size + 1 + 1) (by omega) (.int .u64 ((nx ||| oo : Nat) : Int)); have bX10 := bX9.other (B' := w.heap.size + 1 + 1) (by omega) (.int .u64 ((nx ||| oo : Nat) : Int)); have bA10 := bA9.set (.int .u64 ((nx ||| oo : Nat) : Int)); have bB10 := bB9.other (B' := w.heap.size + 1 + 1) (by omega) (.int .u64 ((nx ||| oo : Nat) : Int)); have cB10 := bB10.cell; have fB10 := bB10.frozen
      refine hK.out _ _ ?_ (fun hHeld => ?_)
      · exact ⟨bO10.cell, bX10.cell, ⟨_, bA10.cell⟩, bA10.frozen, ⟨_, cB10⟩, fB10⟩
      clear hK K
      try simp only [Act.put, List.setIfInBounds_toArray, List.set_cons_zero, List.set_cons_succ]
      refine wpAnyH_ready (rs := [6]) (by kernel_rfl) (by simp) ?_
      refine AllReadyH.cons (o := { dst := none, op := Op.store 4 (Operand.tmp 5) (Operand.const (Value.bool true)), type := 0, pos := "sets.go:55", after := #[{ on := 5, ground := Ground.chain }, { on := 0, ground := Ground.phase }, { on := 1, ground := Ground.phase }, { on := 2, ground := Ground.phase }, { on := 3, ground := Ground.phase }, { on := 4, ground := Ground.phase }, { on := 5, ground := Ground.phase }], guard := none }) rfl (fun K hK => ?_) AllReadyH.nil
      go_simp
      refine hK.out _ _ ?_ (fun hHeld => ?_)
      · exact ⟨(bO10.other (by omega) _).cell, (bX10.other (by omega) _).cell, ⟨_, (bA10.other (by omega) _).cell⟩, (bA10.other (by omega) _).frozen, ⟨_, (bB10.set _).cell⟩, (bB10.set _).frozen⟩
      clear hK K
      try simp only [Act.put, List.setIfInBounds_toArray, List.set_cons_zero, List.set_cons_succ]
      refine wpAnyH_done (by kernel_rfl) ?_ _
      unfold onlyNormal
      gi_wp2
      have hTE : Below W.heap.size W w9 := hB6.trans (hB9.mono hB6.size)
      have hBE : Below w.heap.size W ((w9.setCell ⟨w.heap.size + 1 + 1, 0, none⟩ (.int .u64 ((nx ||| oo : Nat) : Int))).setCell ⟨w.heap.size + 1 + 1 + 1, 0, none⟩ (.bool true)) := ((hTE.mono hWs).setCell (p := ⟨w.heap.size + 1 + 1, 0, none⟩) (by show w.heap.size ≤ w.heap.size + 1 + 1; omega) _).setCell (p := ⟨w.heap.size + 1 + 1 + 1, 0, none⟩) (by show w.heap.size ≤ w.heap.size + 1 + 1 + 1; omega) _
      exact ⟨(((keepsO hTE).trans (KeepsOthers.setCell _ _ _)).trans (KeepsOthers.setCell _ _ _)).from _, rfl, hB.trans hBE, pre, k, rfl, by rw [hkk'.out, hue'.out, hur.out]; exact (bA9.set _).other (by omega) _, bB10.set _, by rw [hkk'.out, hcd'.out, hcn.out], hpl.out⟩
  case done =>
    rintro D ys W hD hys ⟨b0, b1, b2, b3, b4, hB, hpl⟩ hK
    have z4 := b4.lt
    have c2 := b2.cell
    have f2 := b2.frozen
    have c3 := b3.cell
    have f3 := b3.frozen
    have hfin : Hid (∀ k ∈ nums x, cnd Pf s k.val = false) := fun k hk => by
      have hm : k ∈ plain ys := by rw [show plain ys = nums x from hys]; exact hk
      obtain ⟨j, hj, rfl⟩ := List.mem_map.1 hm
      exact hpl.out j hj
    clear hpl hys ho hP hin hsn
    go_wp2
    have hK1 := (KeepsOthers.setCell _ ⟨w.heap.size + 1 + 1 + 1, 0, none⟩ (.bool false)).same D _ ((KeepsOthers.setCell W ⟨w.heap.size + 1 + 1, 0, none⟩ (.int .u64 0)).same D _ hK rfl) rfl
    have bA := (b2.set (.int .u64 0)).other (B' := w.heap.size + 1 + 1 + 1) (by omega) (.bool false)
    have bB := (b3.other (B' := w.heap.size + 1 + 1) (by omega) (.int .u64 0)).set (.bool false)
    have bA2 := bA.kept (grownBy_putObj' _ D (.deferred none)) (by intro e; cases e; omega)
    have bB2 := bB.kept (grownBy_putObj' _ D (.deferred none)) (by intro e; cases e; omega)
    have cA := bA2.cell
    have cB := bB2.cell
    have hBE : Below w.heap.size w ((W.setCell ⟨w.heap.size + 1 + 1, 0, none⟩ (.int .u64 0)).setCell ⟨w.heap.size + 1 + 1 + 1, 0, none⟩ (.bool false)) := (hB.setCell (p := ⟨w.heap.size + 1 + 1, 0, none⟩) (by show w.heap.size ≤ w.heap.size + 1 + 1; omega) _).setCell (p := ⟨w.heap.size + 1 + 1 + 1, 0, none⟩) (by show w.heap.size ≤ w.heap.size + 1 + 1 + 1; omega) _
    refine ⟨by simp, .inl ⟨_, _, rfl, run_takeDeferred hK1, ?_⟩⟩
    refine ⟨.tuple #[.agg #[.int .u64 0], .bool false], by simp [results, Tryd.results12, go_sem, cA, cB], 0, false, rfl, ?_, ?_⟩
    · rw [hA.out]; exact .inl ⟨rfl, rfl, hfin.out⟩
    · exact hBE.trans (belowK_b (w := w) (Nat.le_refl _) _ D _ _ (by omega) hK1 rfl rfl)
  case stop =>
    rintro D c pre W hD hSp ⟨rfl, hB, p, k, rfl, b2, b3, hc, hp⟩ hK
    have z3 := b3.lt
    have hSp' : plain p ++ [k.val] <+: nums x := by rw [← plain_snoc]; exact hSp
    have hfin : Hid (∃ pre k', pre ++ [k'] <+: nums x ∧ cnd Pf s k'.val = true ∧ (∀ d ∈ pre, cnd Pf s d.val = false) ∧ upR Pf s k.val.val = upR Pf s k'.val) := ⟨plain p, k.val, hSp', hc, fun d hd' => by
      obtain ⟨j, hj, rfl⟩ := List.mem_map.1 hd'
      exact hp j hj, rfl⟩
    generalize upR Pf s k.val.val = ur at *
    clear ho hP hin hsn hSp hSp' hc hp
    gi_wp2
    have bA2 := b2.kept (grownBy_putObj' _ D (.deferred none)) (by intro e; cases e; omega)
    have bB2 := b3.kept (grownBy_putObj' _ D (.deferred none)) (by intro e; cases e; omega)
    have cA := bA2.cell
    have cB := bB2.cell
    refine ⟨by simp, .inl ⟨_, _, rfl, run_takeDeferred hK, ?_⟩⟩
    refine ⟨.tuple #[.agg #[.int .u64 ur], .bool true], by simp [results, Tryd.results12, go_sem, cA, cB], ur, true, rfl, ?_, ?_⟩
    · rw [hA.out]; exact .inr ⟨rfl, hfin.out⟩
    · exact hB.trans (belowK_b (w := w) (Nat.le_refl _) _ D _ _ (by omega) hK rfl rfl)
theorem afterO (ho : OrdAt w go gp gs n Pf Sf) (hn : n ≤ 64) (hP : ∀ a, a < n → Pf a < 18446744073709551616) (s : Nat) (hd : s < 18446744073709551616) (hsn : ∀ k ∈ nums s, k.val < n) (ht : Tab w) :
    Calls Tryd.prog 12 #[.pointer (some ⟨go, 0, none⟩), .agg #[.int .u64 s]] w fun e W' => ∃ u b, e = .returned (.tuple #[.agg #[.int .u64 (u : Nat)], .bool b]) ∧ AftR n Pf s u b ∧ Below w.heap.size w W' := callsIn_wide.1 (afterC ho hn hP s hd hsn ht)
end
end Go.Proofs.YtmdeljldmehefaaDoor
