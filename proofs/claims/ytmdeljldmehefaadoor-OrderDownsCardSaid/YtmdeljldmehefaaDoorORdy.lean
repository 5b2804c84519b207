/- ahead, Ready, Down: what they answer. -/
import Derived.Test.YtmdeljldmehefaaDoorOFn
import Derived.Test.YtmdeljldmehefaaDoorAllMem
namespace Go.Proofs.YtmdeljldmehefaaDoor
open Go.RowKit Go.Shelf
attribute [local go_sem] Oper.semAt_some
/-- All of F over a row of numbers, or-ed. -/
def orAll (F : Nat → Nat) (l : List (Fin 64)) : Nat := l.foldl (fun acc k => acc ||| F k.val) 0
theorem orAll_snoc (F : Nat → Nat) (l : List (Fin 64)) (k : Fin 64) : orAll F (l ++ [k]) = orAll F l ||| F k.val := by simp [orAll]
theorem orAll_lt {F : Nat → Nat} : ∀ {l : List (Fin 64)}, (∀ k ∈ l, F k.val < 18446744073709551616) → orAll F l < 18446744073709551616 := by
  intro l
  unfold orAll
  suffices h : ∀ acc, acc < 18446744073709551616 → (∀ k ∈ l, F k.val < 18446744073709551616) → l.foldl (fun acc k => acc ||| F k.val) acc < 18446744073709551616 from h 0 (by decide)
  induction l with
  | nil => intro acc h _; exact h
  | cons a l ih => intro acc h h2; exact ih _ (Nat.or_lt_two_pow (n := 64) h (h2 a (by simp))) fun k hk => h2 k (by simp [hk])
theorem keepsO {W w1 : World} (h : Below W.heap.size W w1) : KeepsOthers W w1 :=
  ⟨h.size, fun k _ hk _ => (h.block k (Array.getElem?_eq_some_iff.1 hk).1).trans hk⟩
theorem bxb {W W' : World} {b n : Nat} {t : TypeId} {v : Value} (h : Boxed W b t v) (hb : Below n W W') (hn : b < n) : Boxed W' b t v := (hb.block b hn).trans h
section
variable {go gp gs n : Nat} {Pf Sf : Nat → Nat} {w : World}
set_option maxRecDepth 100000 in
set_option maxHeartbeats 4000000 in
theorem aheadC (ho : OrdAt w go gp gs n Pf Sf) (hP : ∀ a, a < n → Pf a < 18446744073709551616) (x : Nat) (hx : x < 18446744073709551616) (hin : ∀ k ∈ nums x, k.val < n) (ht : Tab w) :
    CallsIn Fence.wide 9 Tryd.prog 30 #[.pointer (some ⟨go, 0, none⟩), .agg #[.int .u64 x]] w fun e W' => e = .returned (.agg #[.int .u64 (orAll Pf (nums x) : Int)]) ∧ Below w.heap.size w W' := by
  have h3 := ht.2
  have hmx : Tryd.prog.follows Departure.mixedOrders = true := by kernel_rfl
  refine callsIn_of_wp_marks Tryd.func30 rfl trivial ?_ rfl
  simp only [Tryd.ntmps30, List.size_toArray, List.length_cons, List.length_nil, Nat.reduceAdd, Nat.reduceSub, Array.replicate_succ, Array.replicate_zero, List.push_toArray, List.append_toArray, List.nil_append, List.cons_append]
  gi_wp2_with (refine ⟨trivial, ?_⟩; gi_at_call 20; refine (callsIn_wide.2 (all64 _ _)).mono ?_; rintro e w' ⟨rfl, rfl⟩)
  have hB0 : Below w.heap.size w (((((w.alloc (.cells #[.pointer (some ⟨go, 0, none⟩)] 27)).alloc (.cells #[.int .u64 x] 44)).alloc (.cells #[.int .u64 0] 44)).alloc (.cells #[.int .u64 0] 44)).alloc (.cells #[.int .u64 x] 44)) := (((((Below.refl _ w).alloc (Nat.le_refl _) _).alloc (by simp) _).alloc (by simp; omega) _).alloc (by simp; omega) _).alloc (by simp; omega) _
  have bO := ((((Boxed.new w 27 (.pointer (some ⟨go, 0, none⟩))).alloc (.cells #[.int .u64 x] 44)).alloc (.cells #[.int .u64 0] 44)).alloc (.cells #[.int .u64 0] 44)).alloc (.cells #[.int .u64 x] 44)
  have bR := ((Boxed.new ((w.alloc (.cells #[.pointer (some ⟨go, 0, none⟩)] 27)).alloc (.cells #[.int .u64 x] 44)) 44 (.int .u64 0)).alloc (.cells #[.int .u64 0] 44)).alloc (.cells #[.int .u64 x] 44)
  have bA := (Boxed.new (((w.alloc (.cells #[.pointer (some ⟨go, 0, none⟩)] 27)).alloc (.cells #[.int .u64 x] 44)).alloc (.cells #[.int .u64 0] 44)) 44 (.int .u64 0)).alloc (.cells #[.int .u64 x] 44)
  have bN := Boxed.new ((((w.alloc (.cells #[.pointer (some ⟨go, 0, none⟩)] 27)).alloc (.cells #[.int .u64 x] 44)).alloc (.cells #[.int .u64 0] 44)).alloc (.cells #[.int .u64 0] 44)) 44 (.int .u64 x)
  simp only [World.size_alloc] at bR bA bN
  generalize hW0 : (((((w.alloc (.cells #[.pointer (some ⟨go, 0, none⟩)] 27)).alloc (.cells #[.int .u64 x] 44)).alloc (.cells #[.int .u64 0] 44)).alloc (.cells #[.int .u64 0] 44)).alloc (.cells #[.int .u64 x] 44)) = W0 at *
  have hs0 : W0.heap.size = w.heap.size + 1 + 1 + 1 + 1 + 1 := by rw [← hW0]; simp
  clear hW0
  refine wpIn_rangeFunc_ownG rfl (by decide) (gf := 36) (lb := #[.pointer (some ⟨w.heap.size + 1 + 1 + 1 + 1, 0, none⟩)]) rfl trivial (enters_of Tryd.func36 (by kernel_rfl) rfl)
    (all_mem 8 (w.heap.size + 1 + 1 + 1 + 1) x hx W0 (by omega) (ht.over hB0) bN.cell) KpB.t (KpB.b (by omega) (by omega)) (Below.refl _ _) (fun _ => rfl)
    (fun pre W => Boxed W w.heap.size 27 (.pointer (some ⟨go, 0, none⟩)) ∧ Boxed W (w.heap.size + 1 + 1) 44 (.int .u64 0) ∧ Boxed W (w.heap.size + 1 + 1 + 1) 44 (.int .u64 (orAll Pf (plain pre) : Int)) ∧ Boxed W (w.heap.size + 1 + 1 + 1 + 1) 44 (.int .u64 x) ∧ Below w.heap.size w W)
    (fun _ _ _ => False)
    (OwnFrom.and (Own.from (boxed_own _ _ _) _) (OwnFrom.and (Own.from (boxed_own _ _ _) _) (OwnFrom.and (Own.from (boxed_own _ _ (fun pre => .int .u64 (orAll Pf (plain pre) : Int))) _) (OwnFrom.and (Own.from (boxed_own _ _ _) _) (ownFrom_below (Nat.le_refl _) (by omega))))))
    (fun _ _ _ _ _ hs _ _ => hs)
    ⟨bO, bR, bA, bN, hB0⟩
    (fun j => { tmps := #[.pointer (some ⟨go, 0, none⟩), .agg #[.int .u64 x], .pointer (some ⟨w.heap.size, 0, none⟩), .pointer (some ⟨w.heap.size + 1, 0, none⟩), .pointer (some ⟨w.heap.size + 1 + 1, 0, none⟩), .pointer (some ⟨w.heap.size + 1 + 1 + 1, 0, none⟩), .int .i64 (j.val.val : Int), .agg #[.int .u64 x], .func (.func 36) #[] #[.pointer (some ⟨w.heap.size + 1 + 1 + 1 + 1, 0, none⟩)], .int .i64 (j.val.val : Int), undef, undef, undef, undef, undef, undef, undef, undef, undef, undef], defers := [] }) ?assign ?body ?done ?stop
  case assign =>
    intro l j W K hK
    gi_wp2
    exact hK
  case body =>
    rintro l pre k W ⟨b0, b1, b2, b4, hB⟩ hlt
    have hkn := hin k.val k.property
    have hWs := hB.size
    have z4 := b4.lt
    have c0 := b0.cell
    have c1 := cell_over ho.o0 hB
    have c2 := cell_over (ho.pc k.val.val hkn) hB
    have c3 := b2.cell
    have hacc : orAll Pf (plain pre) < 18446744073709551616 := orAll_lt fun j hj => by
      obtain ⟨i, _, rfl⟩ := List.mem_map.1 hj
      exact hP _ (hin _ i.property)
    have hpk := hP k.val.val hkn
    have hsn : Hid (orAll Pf (plain (pre ++ [k])) = orAll Pf (plain pre) ||| Pf k.val.val) := by show _ = _; rw [plain_snoc, orAll_snoc]
    have KO := hide' (or64 (orAll Pf (plain pre)) (Pf k.val.val) hacc hpk)
    generalize orAll Pf (plain pre) = acc at *
    generalize Pf k.val.val = pk at *
    generalize k.val.val = kk at *
    clear ho hP hin hlt bO bR bA bN
    gi_wp2
    gi_region_with_o (refine ⟨trivial, ?_⟩; gi_at_call 16; refine (CallsIn.inRound l (callsIn_wide.2 (KO.out _))).mono ?_; rintro e w1 ⟨rfl, hb⟩; have bA1 : Boxed w1 (w.heap.size + 1 + 1 + 1) 44 (.int .u64 acc) := (hb.block (w.heap.size + 1 + 1 + 1) (by simp; omega)).trans b2; have cA1 := bA1.cell; have fA1 := bA1.frozen)
    all_goals gi_wp2
    all_goals
      have hb' : Below W.heap.size W w1 := ((Below.refl _ W).drew).trans hb
      have b4' := (bxb b4 hb' (by omega)).other (B' := w.heap.size + 1 + 1 + 1) (by omega) (.int .u64 ((acc ||| pk : Nat) : Int))
      have hBW : Below w.heap.size W (w1.setCell ⟨w.heap.size + 1 + 1 + 1, 0, none⟩ (.int .u64 ((acc ||| pk : Nat) : Int))) := (hb'.mono (by omega)).setCell (p := ⟨w.heap.size + 1 + 1 + 1, 0, none⟩) (by show w.heap.size ≤ w.heap.size + 1 + 1 + 1; omega) _
      exact ⟨((keepsO hb').trans (KeepsOthers.setCell _ _ _)).from _, ⟨b4'.cell.trans b4.cell.symm, fun h => h.below h3 hBW⟩, (bxb b0 hb' (by omega)).other (by omega) _, (bxb b1 hb' (by omega)).other (by omega) _, by rw [hsn.out]; exact bA1.set _, b4', hB.trans hBW⟩
  case done =>
    rintro D ys W hD hys ⟨b0, b1, b2, b4, hB⟩ hK
    have z4 := b4.lt
    rw [hys] at b2
    have c2 := b2.cell
    have c1 := b1.cell
    have f1 := b1.frozen
    generalize hacc : orAll Pf (nums x) = acc at *
    have Hacc := hide' hacc
    clear ho hP hin bO bR bA bN hys hacc
    gi_wp2
    have hK1 := (KeepsOthers.setCell W ⟨w.heap.size + 1 + 1, 0, none⟩ (.int .u64 (acc : Int))).same D _ hK rfl
    have bE := b1.set (.int .u64 (acc : Int))
    have bE2 := bE.kept (grownBy_putObj' _ D (.deferred none)) (by intro e; cases e; omega)
    have cE := bE2.cell
    refine ⟨by simp, .inl ⟨_, _, rfl, run_takeDeferred hK1, ?_⟩⟩
    refine ⟨.agg #[.int .u64 acc], by simp [results, Tryd.results30, go_sem, cE], by rw [Hacc.out], ?_⟩
    exact (hB.setCell (p := ⟨w.heap.size + 1 + 1, 0, none⟩) (by show w.heap.size ≤ w.heap.size + 1 + 1; omega) _).trans (belowK_b (w := w) (Nat.le_refl _) _ D _ _ (by omega) hK1 rfl rfl)
  case stop =>
    rintro D c pre W _ _ h _
    exact h.elim
end
end Go.Proofs.YtmdeljldmehefaaDoor
