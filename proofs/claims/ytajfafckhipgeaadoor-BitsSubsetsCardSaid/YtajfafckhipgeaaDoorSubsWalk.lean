/- BitsSubsets answers true for every word, wherever the library's table lies as it is laid; it makes new memory alone. -/
import Derived.Test.YtajfafckhipgeaaDoorSubsLaw
import Derived.Test.YtajfafckhipgeaaDoorWakes
namespace Go.Proofs.YtajfafckhipgeaaDoor
open Go.RowKit Go.Shelf
attribute [local go_sem] Oper.semAt_some
set_option maxRecDepth 100000 in
set_option maxHeartbeats 40000000 in
theorem bitsSubsets_walkC (A B : Nat) (I K : Int) (hA : A < 18446744073709551616) (w : World) (ht : Tab w)
    (hseq : ∀ (Bn : Nat) (w' : World), Bn < w'.heap.size → Tab w' → w'.cell? ⟨Bn, 0, none⟩ = some (.int .u64 A) →
      SeqN 8 Tryd.prog 50 #[.pointer (some ⟨Bn, 0, none⟩)] encW (KpB Bn) (fun ys => ys = subsL (nums A)) (fun pre => pre <+: subsL (nums A)) (subsL (nums A)).length w') :
    CallsIn Fence.wide 9 Tryd.prog 7 #[.agg #[.int .u64 A, .int .u64 B, .int .i64 I, .int .i64 K]] w fun e w' => e = .returned (.bool true) ∧ Below w.heap.size w w' := by
  have h3 := ht.2
  have hnil := eql_fn_s
  have hmx : Tryd.prog.follows Departure.mixedOrders = true := by kernel_rfl
  refine callsIn_of_wp_marks Tryd.func7 rfl trivial ?_ rfl
  simp only [Tryd.ntmps7, List.size_toArray, List.length_cons, List.length_nil, Nat.reduceAdd, Nat.reduceSub, Array.replicate_succ, Array.replicate_zero, List.push_toArray, List.append_toArray, List.nil_append, List.cons_append]
  gi_wp2_with (first | (refine ⟨trivial, ?_⟩; gi_at_call 8; refine (callsIn_wide.2 (of64 _ _ _)).mono ?_; rintro e w1 ⟨rfl, hb1⟩) | (refine ⟨trivial, ?_⟩; gi_at_call 31; refine (callsIn_wide.2 (subsets64 _ _)).mono ?_; rintro e w' ⟨rfl, rfl⟩))
  rename_i Kt hKt
  have s1 : w.heap.size + 3 ≤ w1.heap.size := by have := hb1.size; simp at this; omega
  have x0 : w1.heap[w.heap.size]? = some (.cells #[.int .u64 A, .int .u64 B, .int .i64 I, .int .i64 K] 24 (0, 0)) := (hb1.block _ (by simp; omega)).trans (alloc4 _ _ _ _).1
  have x1 : Boxed w1 (w.heap.size + 1) 4 (.bool false) := (hb1.block _ (by simp)).trans (alloc4 _ _ _ _).2
  have b1 : Below w.heap.size w w1 := ((((Below.refl _ w).alloc (Nat.le_refl _) _).alloc (by simp) _).alloc (by simp; omega) _).trans (hb1.mono (by simp; omega))
  have hI0 := SI.start (A := A) x0 x1 b1
  have hs0 : ((((w1.alloc (.cells #[.int .u64 A] 26)).alloc (.cells #[.int .u64 A] 26)).alloc (.cells #[.int .i64 0] 3)).alloc (.cells #[.int .u64 0] 22)).heap.size = w1.heap.size + 1 + 1 + 1 + 1 := by simp
  clear hb1 x0 x1 b1 hnil
  generalize (((w1.alloc (.cells #[.int .u64 A] 26)).alloc (.cells #[.int .u64 A] 26)).alloc (.cells #[.int .i64 0] 3)).alloc (.cells #[.int .u64 0] 22) = W0 at *
  generalize w1.heap.size = bs at *
  have hnl := nums_len A
  have tail : ∀ (D m v : Nat) (V : World), W0.heap.size ≤ D → SI w (.cells #[.int .u64 A, .int .u64 B, .int .i64 I, .int .i64 K] 24 (0, 0)) bs A m v V → V.heap[D]? = some (.deferred (some [])) → ((m = 2 ^ (nums A).length ∧ v = A ∧ (nums A).length ≤ 10) ∨ (m = 1100 ∧ 11 ≤ (nums A).length)) →
      Kt { tmps := #[.agg #[.int .u64 A, .int .u64 B, .int .i64 I, .int .i64 K], .pointer (some ⟨w.heap.size, 0, none⟩), .pointer (some ⟨w.heap.size + 1, 0, none⟩), .pointer (some ⟨w.heap.size + 1 + 1, 0, none⟩), .pointer (some ⟨bs, 0, none⟩), .func (.func 50) #[] #[.pointer (some ⟨bs + 1, 0, none⟩)], .pointer (some ⟨bs + 1 + 1, 0, none⟩), .pointer (some ⟨bs + 1 + 1 + 1, 0, none⟩), undef, undef, undef, .agg #[.int .u64 0], .pointer (some ⟨w.heap.size, 0, none⟩), .int .u64 A, .agg #[.int .u64 A], .agg #[.int .u64 A], .func (.func 50) #[] #[.pointer (some ⟨bs + 1, 0, none⟩)], .func (.func 50) #[] #[.pointer (some ⟨bs + 1, 0, none⟩)], .bool false, .func (.func 50) #[] #[.pointer (some ⟨bs + 1, 0, none⟩)], undef, undef, undef, undef, undef, undef, undef, undef, undef, undef, undef, undef, undef, undef, undef, undef, undef, undef, undef, undef, undef, undef, undef, undef, undef, undef, undef, undef, undef, undef, undef, undef, undef, undef, undef, undef, undef, undef, undef, undef, undef, undef, undef, undef, undef, undef, undef, undef, undef, undef, undef, undef, undef, undef, undef, undef, undef, undef, undef, undef, undef], defers := [{ target := .collected D, args := #[] }] } V := by
    intro D m v V hD hSI hK hcase
    refine hKt _ _ ?_
    clear hKt hseq hI0
    have cX1 : Hid (∀ (m v : Nat) (V : World), SI w (.cells #[.int .u64 A, .int .u64 B, .int .i64 I, .int .i64 K] 24 (0, 0)) bs A m v V → V.cell? ⟨w.heap.size, 0, none⟩ = some (.int .u64 A)) := fun m v V h => by simp [World.cell?, h.1]
    generalize hN : (nums A).length = N at *
    gi_wp2
    gi_loopw [9, 10] (fun p q wr => ∃ c P : Nat, p = .int .i64 P ∧ q = .int .i64 c ∧ Hid (P = 2 ^ c) ∧ c ≤ N ∧ c ≤ 11 ∧ SI w (.cells #[.int .u64 A, .int .u64 B, .int .i64 I, .int .i64 K] 24 (0, 0)) bs A m v wr ∧ wr.heap[D]? = some (.deferred (some []))) (fun _ q _ => (11 - intOf q).toNat)
    case atStart => exact ⟨0, 1, rfl, rfl, rfl, Nat.zero_le _, Nat.zero_le _, hSI, hK⟩
    case round =>
      obtain ⟨c, P, rfl, rfl, hP, hc1, hc2, hSr, hKr⟩ := hrel
      have HLn : Hid (∀ W, Calls Tryd.prog 25 #[.agg #[.int .u64 (A : Int)]] W fun e w' => e = .returned (.int .i64 (N : Int)) ∧ Below W.heap.size W w') := fun W => by
        have := len64 A hA W; rw [hN] at this; exact this
      have cS := hSr.2.2.1.cell
      have hPs : P ≤ 2048 := by rw [hP.out]; exact Nat.pow_le_pow_right (by decide) hc2
      by_cases hlt : c < N
      · by_cases h10 : c ≤ 10
        · have hP1 : P < 1100 := by
            rw [hP.out]; exact Nat.lt_of_le_of_lt (Nat.pow_le_pow_right (by decide) h10) (by decide)
          gi_wp2_with (refine ⟨trivial, ?_⟩; gi_at_call 25; refine (callsIn_wide.2 (HLn.out _)).mono ?_; rintro e w7 ⟨rfl, hb7⟩)
          go_roundw
          case rel => exact ⟨c + 1, 2 * P, by go_num, by go_num, by show 2 * P = 2 ^ (c + 1); rw [hP.out, Nat.pow_succ]; omega, by omega, by omega, hSr.below hb7, (hb7.block _ (Array.getElem?_eq_some_iff.1 hKr).1).trans hKr⟩
          case measure => simp [intOf]; omega
        · obtain rfl : c = 11 := by omega
          obtain rfl : P = 2048 := hP.out
          obtain ⟨rfl, h11⟩ : m = 1100 ∧ 11 ≤ N := by
            rcases hcase with h | h
            · omega
            · exact h
          gi_wp2_with (first | (refine ⟨trivial, ?_⟩; gi_at_call 25; refine (callsIn_wide.2 (HLn.out _)).mono ?_; rintro e w7 ⟨rfl, hb7⟩; have S7 := hSr.below hb7; have cN7 := S7.2.2.2.2.1.cell; have cL7 := S7.2.2.2.2.2.1.cell; have cX7 := cX1.out _ _ _ S7) | (refine ⟨trivial, ?_⟩; gi_at_call 20; refine (callsIn_wide.2 (wakes _ (ht.over S7.2.2.2.2.2.2))).mono ?_; rintro e w8 ⟨rfl, hb8⟩; have S8 := S7.below hb8; have cR8 := S8.2.1.cell; have fR8 := S8.2.1.frozen))
          have k8 := (KeepsOthers.setCell w8 ⟨w.heap.size + 1, 0, none⟩ (.bool true)).same D _ ((keepsO hb8).same D _ ((keepsO hb7).same D _ hKr rfl) rfl) rfl
          have bE := (S8.2.1.set (.bool true)).kept (grownBy_putObj' _ D (.deferred none)) (by intro e; cases e; omega)
          have cE := bE.cell
          refine ⟨by simp, .inl ⟨_, _, rfl, run_takeDeferred k8, ?_⟩⟩
          refine ⟨.bool true, by simp [results, Tryd.results7, go_sem, cE], rfl, ?_⟩
          exact (S8.2.2.2.2.2.2.setCell (p := ⟨w.heap.size + 1, 0, none⟩) (by show w.heap.size ≤ w.heap.size + 1; omega) _).trans (belowK_b (w := w) (Nat.le_refl _) _ D _ _ (by omega) k8 rfl rfl)
      · obtain rfl : c = N := by omega
        rcases hcase with ⟨hm, hvA, h10⟩ | ⟨rfl, h11⟩
        · obtain rfl : P = m := by rw [hP.out, hm]
          clear hm
          subst hvA
          have hP1 : P < 1100 := by
            rw [hP.out]; exact Nat.lt_of_le_of_lt (Nat.pow_le_pow_right (by decide) h10) (by decide)
          gi_wp2_with (first | (refine ⟨trivial, ?_⟩; gi_at_call 25; refine (callsIn_wide.2 (HLn.out _)).mono ?_; rintro e w7 ⟨rfl, hb7⟩; have S7 := hSr.below hb7; have cN7 := S7.2.2.2.2.1.cell; have cL7 := S7.2.2.2.2.2.1.cell; have cX7 := cX1.out _ _ _ S7) | (refine ⟨trivial, ?_⟩; gi_at_call 20; refine (callsIn_wide.2 (wakes _ (ht.over S7.2.2.2.2.2.2))).mono ?_; rintro e w8 ⟨rfl, hb8⟩; have S8 := S7.below hb8; have cR8 := S8.2.1.cell; have fR8 := S8.2.1.frozen))
          have k8 := (KeepsOthers.setCell w8 ⟨w.heap.size + 1, 0, none⟩ (.bool true)).same D _ ((keepsO hb8).same D _ ((keepsO hb7).same D _ hKr rfl) rfl) rfl
          have bE := (S8.2.1.set (.bool true)).kept (grownBy_putObj' _ D (.deferred none)) (by intro e; cases e; omega)
          have cE := bE.cell
          refine ⟨by simp, .inl ⟨_, _, rfl, run_takeDeferred k8, ?_⟩⟩
          refine ⟨.bool true, by simp [results, Tryd.results7, go_sem, cE], rfl, ?_⟩
          exact (S8.2.2.2.2.2.2.setCell (p := ⟨w.heap.size + 1, 0, none⟩) (by show w.heap.size ≤ w.heap.size + 1; omega) _).trans (belowK_b (w := w) (Nat.le_refl _) _ D _ _ (by omega) k8 rfl rfl)
        · obtain rfl : c = 11 := by omega
          obtain rfl : P = 2048 := hP.out
          gi_wp2_with (first | (refine ⟨trivial, ?_⟩; gi_at_call 25; refine (callsIn_wide.2 (HLn.out _)).mono ?_; rintro e w7 ⟨rfl, hb7⟩; have S7 := hSr.below hb7; have cN7 := S7.2.2.2.2.1.cell; have cL7 := S7.2.2.2.2.2.1.cell; have cX7 := cX1.out _ _ _ S7) | (refine ⟨trivial, ?_⟩; gi_at_call 20; refine (callsIn_wide.2 (wakes _ (ht.over S7.2.2.2.2.2.2))).mono ?_; rintro e w8 ⟨rfl, hb8⟩; have S8 := S7.below hb8; have cR8 := S8.2.1.cell; have fR8 := S8.2.1.frozen))
          have k8 := (KeepsOthers.setCell w8 ⟨w.heap.size + 1, 0, none⟩ (.bool true)).same D _ ((keepsO hb8).same D _ ((keepsO hb7).same D _ hKr rfl) rfl) rfl
          have bE := (S8.2.1.set (.bool true)).kept (grownBy_putObj' _ D (.deferred none)) (by intro e; cases e; omega)
          have cE := bE.cell
          refine ⟨by simp, .inl ⟨_, _, rfl, run_takeDeferred k8, ?_⟩⟩
          refine ⟨.bool true, by simp [results, Tryd.results7, go_sem, cE], rfl, ?_⟩
          exact (S8.2.2.2.2.2.2.setCell (p := ⟨w.heap.size + 1, 0, none⟩) (by show w.heap.size ≤ w.heap.size + 1; omega) _).trans (belowK_b (w := w) (Nat.le_refl _) _ D _ _ (by omega) k8 rfl rfl)
  have hgW : w.heap.size ≤ W0.heap.size := by omega
  refine rangeA (n := 9) (gf := 50) (lb := #[.pointer (some ⟨bs + 1, 0, none⟩)]) rfl (enters_of Tryd.func50 (by kernel_rfl) rfl)
    (hseq (bs + 1) W0 (by omega) (ht.over hI0.2.2.2.2.2.2) hI0.2.2.2.1.cell) KpB.t (KpB.b (by omega) (by omega)) (fun _ => rfl)
    (SbI w (.cells #[.int .u64 A, .int .u64 B, .int .i64 I, .int .i64 K] 24 (0, 0)) bs A) (SbX w (.cells #[.int .u64 A, .int .u64 B, .int .i64 I, .int .i64 K] 24 (0, 0)) bs A) (SbI.own rfl hgW) (SbX.own rfl hgW) ⟨hI0, by decide⟩
    (fun t a' V => ∃ b, W0.heap.size ≤ b ∧ a' = { tmps := #[.agg #[.int .u64 A, .int .u64 B, .int .i64 I, .int .i64 K], .pointer (some ⟨w.heap.size, 0, none⟩), .pointer (some ⟨w.heap.size + 1, 0, none⟩), .pointer (some ⟨w.heap.size + 1 + 1, 0, none⟩), .pointer (some ⟨bs, 0, none⟩), .func (.func 50) #[] #[.pointer (some ⟨bs + 1, 0, none⟩)], .pointer (some ⟨bs + 1 + 1, 0, none⟩), .pointer (some ⟨bs + 1 + 1 + 1, 0, none⟩), .pointer (some ⟨b, 0, none⟩), undef, undef, .agg #[.int .u64 0], .pointer (some ⟨w.heap.size, 0, none⟩), .int .u64 A, .agg #[.int .u64 A], .agg #[.int .u64 A], .func (.func 50) #[] #[.pointer (some ⟨bs + 1, 0, none⟩)], .func (.func 50) #[] #[.pointer (some ⟨bs + 1, 0, none⟩)], .bool false, .func (.func 50) #[] #[.pointer (some ⟨bs + 1, 0, none⟩)], .agg #[.int .u64 (t.1 : Int)], undef, undef, undef, undef, undef, undef, undef, undef, undef, undef, undef, undef, undef, undef, undef, undef, undef, undef, undef, undef, undef, undef, undef, undef, undef, undef, undef, undef, undef, undef, undef, undef, undef, undef, undef, undef, undef, undef, undef, undef, undef, undef, undef, undef, undef, undef, undef, undef, undef, undef, undef, undef, undef, undef, undef, undef, undef, undef, undef, undef], defers := [] } ∧ Boxed V b 26 (.int .u64 (t.1 : Int)))
    (fun t a' _ Y Z row h hg hr => h.elim fun b hb => ⟨b, hb.1, hb.2.1, (hg.block b hb.2.2.lt (fun e => by obtain ⟨_, o, ho, hc⟩ := hr b e.symm; rw [show Y.heap[b]? = _ from hb.2.2] at ho; cases ho; cases hc)).trans hb.2.2⟩)
    (fun h k => KpB.of_below k (by omega) (by omega)) ?assign ?body ?done ?stop
  case assign =>
    intro l' t V K' hz hK'
    have e1 : encW t = #[.agg #[.int .u64 (t.1 : Int)]] := rfl
    rw [e1]
    gi_wp2
    exact hK' _ _ ((Below.refl _ V).alloc (Nat.le_refl _) _) ⟨V.heap.size, hz, rfl, Boxed.new V _ _⟩
  case body =>
    rintro l pre t a' V hz ⟨hSI, hn⟩ ⟨b, hb, rfl, bT⟩ hlt
    have HN : Hid ((pre ++ [t]) <+: subsL (nums A) → _) := next_ok hA (pre := pre) (t := t)
    have HLen : Hid ((pre ++ [t]).length = pre.length + 1) := by show _ = _; simp
    have HLast : Hid (lastV (pre ++ [t]) = t.1) := lastV_snoc pre t
    have HF : Hid (∀ V', Below V.heap.size V V' → V'.cell? ⟨b, 0, none⟩ = some (.int .u64 (t.1 : Int)) ∧ V'.cell? ⟨bs, 0, none⟩ = some (.int .u64 A) ∧ V'.cell? ⟨bs + 1 + 1, 0, none⟩ = some (.int .i64 pre.length) ∧ V'.cell? ⟨bs + 1 + 1 + 1, 0, none⟩ = some (.int .u64 (lastV pre)) ∧ V'.cell? ⟨w.heap.size + 1, 0, none⟩ = some (.bool false) ∧ V'.frozen? ⟨w.heap.size + 1, 0, none⟩ = false ∧ V'.frozen? ⟨bs + 1 + 1, 0, none⟩ = false ∧ V'.frozen? ⟨bs + 1 + 1 + 1, 0, none⟩ = false) := fun V' hb' => by
      have h' := hSI.below hb'
      exact ⟨((show Boxed V' b _ _ from (hb'.block _ bT.lt).trans bT)).cell, h'.2.2.1.cell, h'.2.2.2.2.1.cell, h'.2.2.2.2.2.1.cell, h'.2.1.cell, h'.2.1.frozen, h'.2.2.2.2.1.frozen, h'.2.2.2.2.2.1.frozen⟩
    have HE : Hid (∀ w6, Below V.heap.size V w6 → ∀ z : Int, z = (pre.length : Int) + 1 → SI w (.cells #[.int .u64 A, .int .u64 B, .int .i64 I, .int .i64 K] 24 (0, 0)) bs A (pre.length + 1) t.1 ((w6.setCell ⟨bs + 1 + 1 + 1, 0, none⟩ (.int .u64 (t.1 : Int))).setCell ⟨bs + 1 + 1, 0, none⟩ (.int .i64 z)) ∧ Kept W0.heap.size V ((w6.setCell ⟨bs + 1 + 1 + 1, 0, none⟩ (.int .u64 (t.1 : Int))).setCell ⟨bs + 1 + 1, 0, none⟩ (.int .i64 z)) ∧ KpB (bs + 1) V ((w6.setCell ⟨bs + 1 + 1 + 1, 0, none⟩ (.int .u64 (t.1 : Int))).setCell ⟨bs + 1 + 1, 0, none⟩ (.int .i64 z))) := fun w6 hb6 z hz6 => by
      have h' := (hSI.below hb6).step (by omega) t.1 z hz6
      refine ⟨h', ((Kept.below hb6).trans (Kept.setCell _ _ (by omega))).trans (Kept.setCell _ _ (by omega)), h'.2.2.2.1.cell.trans hSI.2.2.2.1.cell.symm, fun h => h.below h3 ?_⟩
      have := hSI.2.2.2.2.2.2.size
      exact ((hb6.mono this).setCell (p := ⟨bs + 1 + 1 + 1, 0, none⟩) (by show w.heap.size ≤ bs + 1 + 1 + 1; omega) _).setCell (p := ⟨bs + 1 + 1, 0, none⟩) (by show w.heap.size ≤ bs + 1 + 1; omega) _
    have HR : Hid (∀ w6, Below V.heap.size V w6 → Kept W0.heap.size V (w6.setCell ⟨w.heap.size + 1, 0, none⟩ (.bool false))) := fun w6 hb6 => (Kept.below hb6).trans (Kept.setCell _ _ (by omega))
    have HS : Hid (∀ W, Calls Tryd.prog 15 #[.agg #[.int .u64 (t.1 : Int)], .agg #[.int .u64 (A : Int)]] W fun e w' => e = .returned (.bool ((t.1 &&& (18446744073709551615 - A) : Nat) == 0)) ∧ Below W.heap.size W w') := fun W => sub64 t.1 A t.2 hA W
    have hdr : Below V.heap.size V V.drew := (Below.refl _ V).drew
    obtain ⟨cT, cS, cN, cL, cR, fR, fN, fL⟩ := HF.out V (Below.refl _ V)
    clear hSI bT hseq hI0 hKt tail ht hnl hlt
    by_cases hq : t.1 &&& (18446744073709551615 - A) = 0
    · have HS0 : Hid (∀ W, Calls Tryd.prog 15 #[.agg #[.int .u64 (t.1 : Int)], .agg #[.int .u64 (A : Int)]] W fun e w' => e = .returned (.bool true) ∧ Below W.heap.size W w') := fun W => by
        have := HS.out W; rw [hq] at this; exact this
      clear HS
      by_cases hm : pre.length = 0
      · by_cases ht0 : t.1 = 0
        · have hne0 : ((t.1 : Int) != 0) = false := by rw [bne_eq_false_iff_eq]; omega
          clear HN hq ht0
          rw [hm] at HF cN
          gi_wp2
          gi_region_with_o (first | (refine ⟨trivial, ?_⟩; gi_at_call 15; refine (CallsIn.inRound l (callsIn_wide.2 (HS0.out _))).mono ?_; rintro e w4 ⟨rfl, hb4⟩; have B4 := hdr.trans hb4; obtain ⟨cT4, cS4, cN4, cL4, cR4, fR4, _, _⟩ := HF.out w4 B4) | (refine ⟨trivial, ?_⟩; gi_at_call 19; refine (CallsIn.inRound l (callsIn_wide.2 (word64 _ _))).mono ?_; rintro e w5 ⟨rfl, hb5⟩; have B5 := B4.trans (hb5.mono B4.size); obtain ⟨cT5, cS5, cN5, cL5, cR5, fR5, _, _⟩ := HF.out w5 B5) | (refine ⟨trivial, ?_⟩))
          all_goals
            gi_wp2_with (refine ⟨trivial, ?_⟩; gi_at_call 19; refine (CallsIn.inRound l (callsIn_wide.2 (word64 _ _))).mono ?_; rintro e w6 ⟨rfl, hb6⟩; have B6 := B5.trans (hb6.mono B5.size); obtain ⟨cT6, cS6, cN6, cL6, cR6, fR6, fN6, fL6⟩ := HF.out w6 B6)
            obtain ⟨e1, e2, e3⟩ := HE.out w6 B6 1 (by omega)
            exact ⟨e2.from (Nat.le_refl _), e3, ⟨by rw [HLen.out, HLast.out]; exact e1, by rw [HLen.out]; omega⟩, e2.mono (by omega)⟩
        · have HP : Hid (¬ (pre ++ [t]) <+: subsL (nums A)) := fun h => ht0 ((HN.out h).2.1 hm)
          have hne : ((t.1 : Int) != 0) = true := by rw [bne_iff_ne]; omega
          clear HN hq HE
          rw [hm] at HF cN
          gi_wp2
          refine wpIn_region_any (by assumption) ?_
          change wpAnyIn _ _ _ _ _ _ _ _ _ (World.drew _)
          refine wpAnyIn_ready (rs := [0, 1]) (by kernel_rfl) (by simp) ?_
          refine AllReadyIn.cons rfl (fun K hK => ?_) ?_
          · go_simp
            refine hK _ _ ?_
            clear hK K
            refine wpAnyIn_ready (rs := [1]) (by kernel_rfl) (by simp) ?_
            refine AllReadyIn.cons rfl (fun K hK => ?_) ?_
            · go_simp
              refine hK _ _ ?_
              clear hK K
              refine wpAnyIn_ready (rs := [2]) (by kernel_rfl) (by simp) ?_
              refine AllReadyIn.cons rfl (fun K hK => ?_) ?_
              · go_simp; refine ⟨trivial, ?_⟩; gi_at_call 15; refine (CallsIn.inRound l (callsIn_wide.2 (HS0.out _))).mono ?_; rintro e w4 ⟨rfl, hb4⟩; have B4 := hdr.trans hb4; obtain ⟨cT4, cS4, cN4, cL4, cR4, fR4, _, _⟩ := HF.out w4 B4
                refine hK _ _ ?_
                clear hK K
                refine wpAnyIn_ready (rs := [3]) (by kernel_rfl) (by simp) ?_
                refine AllReadyIn.cons rfl (fun K hK => ?_) ?_
                · go_simp
                  refine hK _ _ ?_
                  clear hK K
                  refine wpAnyIn_ready (rs := [4]) (by kernel_rfl) (by simp) ?_
                  refine AllReadyIn.cons rfl (fun K hK => ?_) ?_
                  · go_simp
                    refine hK _ _ ?_
                    clear hK K
                    refine wpAnyIn_ready (rs := [5]) (by kernel_rfl) (by simp) ?_
                    refine AllReadyIn.cons rfl (fun K hK => ?_) ?_
                    · go_simp
                      refine hK _ _ ?_
                      clear hK K
                      refine wpAnyIn_ready (rs := [6]) (by kernel_rfl) (by simp) ?_
                      refine AllReadyIn.cons rfl (fun K hK => ?_) ?_
                      · go_simp
                        refine hK _ _ ?_
                        clear hK K
                        refine wpAnyIn_ready (rs := [7]) (by kernel_rfl) (by simp) ?_
                        refine AllReadyIn.cons rfl (fun K hK => ?_) ?_
                        · go_simp
                          refine hK _ _ ?_
                          clear hK K
                          refine wpAnyIn_ready (rs := [8]) (by kernel_rfl) (by simp) ?_
                          refine AllReadyIn.cons rfl (fun K hK => ?_) ?_
                          · go_simp
                            refine hK _ _ ?_
                            clear hK K
                            refine wpAnyIn_ready (rs := [9]) (by kernel_rfl) (by simp) ?_
                            refine AllReadyIn.cons rfl (fun K hK => ?_) ?_
                            · go_simp; refine ⟨trivial, ?_⟩; gi_at_call 19; refine (CallsIn.inRound l (callsIn_wide.2 (word64 _ _))).mono ?_; rintro e w5 ⟨rfl, hb5⟩; have B5 := B4.trans (hb5.mono B4.size); obtain ⟨cT5, cS5, cN5, cL5, cR5, fR5, _, _⟩ := HF.out w5 B5
                              refine hK _ _ ?_
                              clear hK K
                              refine wpAnyIn_ready (rs := [10]) (by kernel_rfl) (by simp) ?_
                              refine AllReadyIn.cons rfl (fun K hK => ?_) ?_
                              · go_simp
                                refine hK _ _ ?_
                                clear hK K
                                refine wpAnyIn_ready (rs := [11]) (by kernel_rfl) (by simp) ?_
                                refine AllReadyIn.cons rfl (fun K hK => ?_) ?_
                                · go_simp
                                  refine hK _ _ ?_
                                  clear hK K
                                  refine wpAnyIn_ready (rs := [12]) (by kernel_rfl) (by simp) ?_
                                  refine AllReadyIn.cons rfl (fun K hK => ?_) ?_
                                  · go_simp
                                    refine hK _ _ ?_
                                    clear hK K
                                    refine wpAnyIn_ready (rs := [13]) (by kernel_rfl) (by simp) ?_
                                    refine AllReadyIn.cons rfl (fun K hK => ?_) ?_
                                    · go_simp
                                      refine hK _ _ ?_
                                      clear hK K
                                      refine wpAnyIn_ready (rs := [14]) (by kernel_rfl) (by simp) ?_
                                      refine AllReadyIn.cons rfl (fun K hK => ?_) ?_
                                      · go_simp
                                        refine hK _ _ ?_
                                        clear hK K
                                        refine wpAnyIn_ready (rs := [15]) (by kernel_rfl) (by simp) ?_
                                        refine AllReadyIn.cons rfl (fun K hK => ?_) ?_
                                        · go_simp
                                          refine hK _ _ ?_
                                          clear hK K
                                          refine wpAnyIn_ready (rs := [16]) (by kernel_rfl) (by simp) ?_
                                          refine AllReadyIn.cons rfl (fun K hK => ?_) ?_
                                          · go_simp
                                            refine hK _ _ ?_
                                            clear hK K
                                            refine wpAnyIn_ready (rs := [17, 19]) (by kernel_rfl) (by simp) ?_
                                            refine AllReadyIn.cons rfl (fun K hK => ?_) ?_
                                            · go_simp; rw [if_neg (by decide)]
                                              refine hK _ _ ?_
                                              clear hK K
                                              refine wpAnyIn_ready (rs := [18, 19]) (by kernel_rfl) (by simp) ?_
                                              refine AllReadyIn.cons rfl (fun K hK => ?_) ?_
                                              · go_simp; first | (rw [if_neg (by decide)]; try refine ⟨trivial, ?_⟩) | (refine ⟨trivial, ?_⟩; rw [if_neg (by decide)])
                                                refine hK _ _ ?_
                                                clear hK K
                                                refine wpAnyIn_ready (rs := [19]) (by kernel_rfl) (by simp) ?_
                                                refine AllReadyIn.cons rfl (fun K hK => ?_) ?_
                                                · go_simp; rw [if_neg (by decide)]
                                                  refine hK _ _ ?_
                                                  clear hK K
                                                  refine wpAnyIn_ready (rs := [20]) (by kernel_rfl) (by simp) ?_
                                                  refine AllReadyIn.cons rfl (fun K hK => ?_) ?_
                                                  · go_simp; rw [if_neg (by decide)]
                                                    refine hK _ _ ?_
                                                    clear hK K
                                                    refine wpAnyIn_ready (rs := [21]) (by kernel_rfl) (by simp) ?_
                                                    refine AllReadyIn.cons rfl (fun K hK => ?_) ?_
                                                    · go_simp
                                                      refine hK _ _ ?_
                                                      clear hK K
                                                      refine wpAnyIn_ready (rs := [22]) (by kernel_rfl) (by simp) ?_
                                                      refine AllReadyIn.cons rfl (fun K hK => ?_) ?_
                                                      · go_simp
                                                        refine hK _ _ ?_
                                                        clear hK K
                                                        refine wpAnyIn_done (by kernel_rfl) ?_ _
                                                        gi_wp2
                                                        exact ⟨(HR.out _ B5).from (Nat.le_refl _), .inr ⟨rfl, HP.out⟩, (HR.out _ B5).mono (by omega)⟩
                                                      exact AllReadyIn.nil
                                                    exact AllReadyIn.nil
                                                  exact AllReadyIn.nil
                                                exact AllReadyIn.nil
                                              refine AllReadyIn.cons rfl (fun K hK => ?_) ?_
                                              · go_simp; rw [if_neg (by decide)]
                                                refine hK _ _ ?_
                                                clear hK K
                                                refine wpAnyIn_ready (rs := [18]) (by kernel_rfl) (by simp) ?_
                                                refine AllReadyIn.cons rfl (fun K hK => ?_) ?_
                                                · go_simp; first | (rw [if_neg (by decide)]; try refine ⟨trivial, ?_⟩) | (refine ⟨trivial, ?_⟩; rw [if_neg (by decide)])
                                                  refine hK _ _ ?_
                                                  clear hK K
                                                  refine wpAnyIn_ready (rs := [20]) (by kernel_rfl) (by simp) ?_
                                                  refine AllReadyIn.cons rfl (fun K hK => ?_) ?_
                                                  · go_simp; rw [if_neg (by decide)]
                                                    refine hK _ _ ?_
                                                    clear hK K
                                                    refine wpAnyIn_ready (rs := [21]) (by kernel_rfl) (by simp) ?_
                                                    refine AllReadyIn.cons rfl (fun K hK => ?_) ?_
                                                    · go_simp
                                                      refine hK _ _ ?_
                                                      clear hK K
                                                      refine wpAnyIn_ready (rs := [22]) (by kernel_rfl) (by simp) ?_
                                                      refine AllReadyIn.cons rfl (fun K hK => ?_) ?_
                                                      · go_simp
                                                        refine hK _ _ ?_
                                                        clear hK K
                                                        refine wpAnyIn_done (by kernel_rfl) ?_ _
                                                        gi_wp2
                                                        exact ⟨(HR.out _ B5).from (Nat.le_refl _), .inr ⟨rfl, HP.out⟩, (HR.out _ B5).mono (by omega)⟩
                                                      exact AllReadyIn.nil
                                                    exact AllReadyIn.nil
                                                  exact AllReadyIn.nil
                                                exact AllReadyIn.nil
                                              exact AllReadyIn.nil
                                            refine AllReadyIn.cons rfl (fun K hK => ?_) ?_
                                            · go_simp; rw [if_neg (by decide)]
                                              refine hK _ _ ?_
                                              clear hK K
                                              refine wpAnyIn_ready (rs := [17]) (by kernel_rfl) (by simp) ?_
                                              refine AllReadyIn.cons rfl (fun K hK => ?_) ?_
                                              · go_simp; rw [if_neg (by decide)]
                                                refine hK _ _ ?_
                                                clear hK K
                                                refine wpAnyIn_ready (rs := [18]) (by kernel_rfl) (by simp) ?_
                                                refine AllReadyIn.cons rfl (fun K hK => ?_) ?_
                                                · go_simp; first | (rw [if_neg (by decide)]; try refine ⟨trivial, ?_⟩) | (refine ⟨trivial, ?_⟩; rw [if_neg (by decide)])
                                                  refine hK _ _ ?_
                                                  clear hK K
                                                  refine wpAnyIn_ready (rs := [20]) (by kernel_rfl) (by simp) ?_
                                                  refine AllReadyIn.cons rfl (fun K hK => ?_) ?_
                                                  · go_simp; rw [if_neg (by decide)]
                                                    refine hK _ _ ?_
                                                    clear hK K
                                                    refine wpAnyIn_ready (rs := [21]) (by kernel_rfl) (by simp) ?_
                                                    refine AllReadyIn.cons rfl (fun K hK => ?_) ?_
                                                    · go_simp
                                                      refine hK _ _ ?_
                                                      clear hK K
                                                      refine wpAnyIn_ready (rs := [22]) (by kernel_rfl) (by simp) ?_
                                                      refine AllReadyIn.cons rfl (fun K hK => ?_) ?_
                                                      · go_simp
                                                        refine hK _ _ ?_
                                                        clear hK K
                                                        refine wpAnyIn_done (by kernel_rfl) ?_ _
                                                        gi_wp2
                                                        exact ⟨(HR.out _ B5).from (Nat.le_refl _), .inr ⟨rfl, HP.out⟩, (HR.out _ B5).mono (by omega)⟩
                                                      exact AllReadyIn.nil
                                                    exact AllReadyIn.nil
                                                  exact AllReadyIn.nil
                                                exact AllReadyIn.nil
                                              exact AllReadyIn.nil
                                            exact AllReadyIn.nil
                                          exact AllReadyIn.nil
                                        exact AllReadyIn.nil
                                      exact AllReadyIn.nil
                                    exact AllReadyIn.nil
                                  exact AllReadyIn.nil
                                exact AllReadyIn.nil
                              exact AllReadyIn.nil
                            exact AllReadyIn.nil
                          exact AllReadyIn.nil
                        exact AllReadyIn.nil
                      exact AllReadyIn.nil
                    exact AllReadyIn.nil
                  exact AllReadyIn.nil
                exact AllReadyIn.nil
              exact AllReadyIn.nil
            exact AllReadyIn.nil
          refine AllReadyIn.cons rfl (fun K hK => ?_) ?_
          · go_simp
            refine hK _ _ ?_
            clear hK K
            refine wpAnyIn_ready (rs := [0]) (by kernel_rfl) (by simp) ?_
            refine AllReadyIn.cons rfl (fun K hK => ?_) ?_
            · go_simp
              refine hK _ _ ?_
              clear hK K
              refine wpAnyIn_ready (rs := [2]) (by kernel_rfl) (by simp) ?_
              refine AllReadyIn.cons rfl (fun K hK => ?_) ?_
              · go_simp; refine ⟨trivial, ?_⟩; gi_at_call 15; refine (CallsIn.inRound l (callsIn_wide.2 (HS0.out _))).mono ?_; rintro e w4 ⟨rfl, hb4⟩; have B4 := hdr.trans hb4; obtain ⟨cT4, cS4, cN4, cL4, cR4, fR4, _, _⟩ := HF.out w4 B4
                refine hK _ _ ?_
                clear hK K
                refine wpAnyIn_ready (rs := [3]) (by kernel_rfl) (by simp) ?_
                refine AllReadyIn.cons rfl (fun K hK => ?_) ?_
                · go_simp
                  refine hK _ _ ?_
                  clear hK K
                  refine wpAnyIn_ready (rs := [4]) (by kernel_rfl) (by simp) ?_
                  refine AllReadyIn.cons rfl (fun K hK => ?_) ?_
                  · go_simp
                    refine hK _ _ ?_
                    clear hK K
                    refine wpAnyIn_ready (rs := [5]) (by kernel_rfl) (by simp) ?_
                    refine AllReadyIn.cons rfl (fun K hK => ?_) ?_
                    · go_simp
                      refine hK _ _ ?_
                      clear hK K
                      refine wpAnyIn_ready (rs := [6]) (by kernel_rfl) (by simp) ?_
                      refine AllReadyIn.cons rfl (fun K hK => ?_) ?_
                      · go_simp
                        refine hK _ _ ?_
                        clear hK K
                        refine wpAnyIn_ready (rs := [7]) (by kernel_rfl) (by simp) ?_
                        refine AllReadyIn.cons rfl (fun K hK => ?_) ?_
                        · go_simp
                          refine hK _ _ ?_
                          clear hK K
                          refine wpAnyIn_ready (rs := [8]) (by kernel_rfl) (by simp) ?_
                          refine AllReadyIn.cons rfl (fun K hK => ?_) ?_
                          · go_simp
                            refine hK _ _ ?_
                            clear hK K
                            refine wpAnyIn_ready (rs := [9]) (by kernel_rfl) (by simp) ?_
                            refine AllReadyIn.cons rfl (fun K hK => ?_) ?_
                            · go_simp; refine ⟨trivial, ?_⟩; gi_at_call 19; refine (CallsIn.inRound l (callsIn_wide.2 (word64 _ _))).mono ?_; rintro e w5 ⟨rfl, hb5⟩; have B5 := B4.trans (hb5.mono B4.size); obtain ⟨cT5, cS5, cN5, cL5, cR5, fR5, _, _⟩ := HF.out w5 B5
                              refine hK _ _ ?_
                              clear hK K
                              refine wpAnyIn_ready (rs := [10]) (by kernel_rfl) (by simp) ?_
                              refine AllReadyIn.cons rfl (fun K hK => ?_) ?_
                              · go_simp
                                refine hK _ _ ?_
                                clear hK K
                                refine wpAnyIn_ready (rs := [11]) (by kernel_rfl) (by simp) ?_
                                refine AllReadyIn.cons rfl (fun K hK => ?_) ?_
                                · go_simp
                                  refine hK _ _ ?_
                                  clear hK K
                                  refine wpAnyIn_ready (rs := [12]) (by kernel_rfl) (by simp) ?_
                                  refine AllReadyIn.cons rfl (fun K hK => ?_) ?_
                                  · go_simp
                                    refine hK _ _ ?_
                                    clear hK K
                                    refine wpAnyIn_ready (rs := [13]) (by kernel_rfl) (by simp) ?_
                                    refine AllReadyIn.cons rfl (fun K hK => ?_) ?_
                                    · go_simp
                                      refine hK _ _ ?_
                                      clear hK K
                                      refine wpAnyIn_ready (rs := [14]) (by kernel_rfl) (by simp) ?_
                                      refine AllReadyIn.cons rfl (fun K hK => ?_) ?_
                                      · go_simp
                                        refine hK _ _ ?_
                                        clear hK K
                                        refine wpAnyIn_ready (rs := [15]) (by kernel_rfl) (by simp) ?_
                                        refine AllReadyIn.cons rfl (fun K hK => ?_) ?_
                                        · go_simp
                                          refine hK _ _ ?_
                                          clear hK K
                                          refine wpAnyIn_ready (rs := [16]) (by kernel_rfl) (by simp) ?_
                                          refine AllReadyIn.cons rfl (fun K hK => ?_) ?_
                                          · go_simp
                                            refine hK _ _ ?_
                                            clear hK K
                                            refine wpAnyIn_ready (rs := [17, 19]) (by kernel_rfl) (by simp) ?_
                                            refine AllReadyIn.cons rfl (fun K hK => ?_) ?_
                                            · go_simp; rw [if_neg (by decide)]
                                              refine hK _ _ ?_
                                              clear hK K
                                              refine wpAnyIn_ready (rs := [18, 19]) (by kernel_rfl) (by simp) ?_
                                              refine AllReadyIn.cons rfl (fun K hK => ?_) ?_
                                              · go_simp; first | (rw [if_neg (by decide)]; try refine ⟨trivial, ?_⟩) | (refine ⟨trivial, ?_⟩; rw [if_neg (by decide)])
                                                refine hK _ _ ?_
                                                clear hK K
                                                refine wpAnyIn_ready (rs := [19]) (by kernel_rfl) (by simp) ?_
                                                refine AllReadyIn.cons rfl (fun K hK => ?_) ?_
                                                · go_simp; rw [if_neg (by decide)]
                                                  refine hK _ _ ?_
                                                  clear hK K
                                                  refine wpAnyIn_ready (rs := [20]) (by kernel_rfl) (by simp) ?_
                                                  refine AllReadyIn.cons rfl (fun K hK => ?_) ?_
                                                  · go_simp; rw [if_neg (by decide)]
                                                    refine hK _ _ ?_
                                                    clear hK K
                                                    refine wpAnyIn_ready (rs := [21]) (by kernel_rfl) (by simp) ?_
                                                    refine AllReadyIn.cons rfl (fun K hK => ?_) ?_
                                                    · go_simp
                                                      refine hK _ _ ?_
                                                      clear hK K
                                                      refine wpAnyIn_ready (rs := [22]) (by kernel_rfl) (by simp) ?_
                                                      refine AllReadyIn.cons rfl (fun K hK => ?_) ?_
                                                      · go_simp
                                                        refine hK _ _ ?_
                                                        clear hK K
                                                        refine wpAnyIn_done (by kernel_rfl) ?_ _
                                                        gi_wp2
                                                        exact ⟨(HR.out _ B5).from (Nat.le_refl _), .inr ⟨rfl, HP.out⟩, (HR.out _ B5).mono (by omega)⟩
                                                      exact AllReadyIn.nil
                                                    exact AllReadyIn.nil
                                                  exact AllReadyIn.nil
                                                exact AllReadyIn.nil
                                              refine AllReadyIn.cons rfl (fun K hK => ?_) ?_
                                              · go_simp; rw [if_neg (by decide)]
                                                refine hK _ _ ?_
                                                clear hK K
                                                refine wpAnyIn_ready (rs := [18]) (by kernel_rfl) (by simp) ?_
                                                refine AllReadyIn.cons rfl (fun K hK => ?_) ?_
                                                · go_simp; first | (rw [if_neg (by decide)]; try refine ⟨trivial, ?_⟩) | (refine ⟨trivial, ?_⟩; rw [if_neg (by decide)])
                                                  refine hK _ _ ?_
                                                  clear hK K
                                                  refine wpAnyIn_ready (rs := [20]) (by kernel_rfl) (by simp) ?_
                                                  refine AllReadyIn.cons rfl (fun K hK => ?_) ?_
                                                  · go_simp; rw [if_neg (by decide)]
                                                    refine hK _ _ ?_
                                                    clear hK K
                                                    refine wpAnyIn_ready (rs := [21]) (by kernel_rfl) (by simp) ?_
                                                    refine AllReadyIn.cons rfl (fun K hK => ?_) ?_
                                                    · go_simp
                                                      refine hK _ _ ?_
                                                      clear hK K
                                                      refine wpAnyIn_ready (rs := [22]) (by kernel_rfl) (by simp) ?_
                                                      refine AllReadyIn.cons rfl (fun K hK => ?_) ?_
                                                      · go_simp
                                                        refine hK _ _ ?_
                                                        clear hK K
                                                        refine wpAnyIn_done (by kernel_rfl) ?_ _
                                                        gi_wp2
                                                        exact ⟨(HR.out _ B5).from (Nat.le_refl _), .inr ⟨rfl, HP.out⟩, (HR.out _ B5).mono (by omega)⟩
                                                      exact AllReadyIn.nil
                                                    exact AllReadyIn.nil
                                                  exact AllReadyIn.nil
                                                exact AllReadyIn.nil
                                              exact AllReadyIn.nil
                                            refine AllReadyIn.cons rfl (fun K hK => ?_) ?_
                                            · go_simp; rw [if_neg (by decide)]
                                              refine hK _ _ ?_
                                              clear hK K
                                              refine wpAnyIn_ready (rs := [17]) (by kernel_rfl) (by simp) ?_
                                              refine AllReadyIn.cons rfl (fun K hK => ?_) ?_
                                              · go_simp; rw [if_neg (by decide)]
                                                refine hK _ _ ?_
                                                clear hK K
                                                refine wpAnyIn_ready (rs := [18]) (by kernel_rfl) (by simp) ?_
                                                refine AllReadyIn.cons rfl (fun K hK => ?_) ?_
                                                · go_simp; first | (rw [if_neg (by decide)]; try refine ⟨trivial, ?_⟩) | (refine ⟨trivial, ?_⟩; rw [if_neg (by decide)])
                                                  refine hK _ _ ?_
                                                  clear hK K
                                                  refine wpAnyIn_ready (rs := [20]) (by kernel_rfl) (by simp) ?_
                                                  refine AllReadyIn.cons rfl (fun K hK => ?_) ?_
                                                  · go_simp; rw [if_neg (by decide)]
                                                    refine hK _ _ ?_
                                                    clear hK K
                                                    refine wpAnyIn_ready (rs := [21]) (by kernel_rfl) (by simp) ?_
                                                    refine AllReadyIn.cons rfl (fun K hK => ?_) ?_
                                                    · go_simp
                                                      refine hK _ _ ?_
                                                      clear hK K
                                                      refine wpAnyIn_ready (rs := [22]) (by kernel_rfl) (by simp) ?_
                                                      refine AllReadyIn.cons rfl (fun K hK => ?_) ?_
                                                      · go_simp
                                                        refine hK _ _ ?_
                                                        clear hK K
                                                        refine wpAnyIn_done (by kernel_rfl) ?_ _
                                                        gi_wp2
                                                        exact ⟨(HR.out _ B5).from (Nat.le_refl _), .inr ⟨rfl, HP.out⟩, (HR.out _ B5).mono (by omega)⟩
                                                      exact AllReadyIn.nil
                                                    exact AllReadyIn.nil
                                                  exact AllReadyIn.nil
                                                exact AllReadyIn.nil
                                              exact AllReadyIn.nil
                                            exact AllReadyIn.nil
                                          exact AllReadyIn.nil
                                        exact AllReadyIn.nil
                                      exact AllReadyIn.nil
                                    exact AllReadyIn.nil
                                  exact AllReadyIn.nil
                                exact AllReadyIn.nil
                              exact AllReadyIn.nil
                            exact AllReadyIn.nil
                          exact AllReadyIn.nil
                        exact AllReadyIn.nil
                      exact AllReadyIn.nil
                    exact AllReadyIn.nil
                  exact AllReadyIn.nil
                exact AllReadyIn.nil
              exact AllReadyIn.nil
            exact AllReadyIn.nil
          exact AllReadyIn.nil
      · have hm1 : (0 : Int) < (pre.length : Int) := by omega
        have hm0 : ((pre.length : Int) == 0) = false := by rw [beq_eq_false_iff_ne]; omega
        by_cases hle : t.1 ≤ lastV pre
        · have HP : Hid (¬ (pre ++ [t]) <+: subsL (nums A)) := fun h => by have := (HN.out h).2.2 (by omega); omega
          have hle' : (t.1 : Int) ≤ (lastV pre : Int) := by omega
          clear HN hq HE
          generalize lastV pre = v at *
          gi_wp2
          gi_region_with_o (first | (refine ⟨trivial, ?_⟩; gi_at_call 15; refine (CallsIn.inRound l (callsIn_wide.2 (HS0.out _))).mono ?_; rintro e w4 ⟨rfl, hb4⟩; have B4 := hdr.trans hb4; obtain ⟨cT4, cS4, cN4, cL4, cR4, fR4, _, _⟩ := HF.out w4 B4) | (refine ⟨trivial, ?_⟩; gi_at_call 19; refine (CallsIn.inRound l (callsIn_wide.2 (word64 _ _))).mono ?_; rintro e w5 ⟨rfl, hb5⟩; have B5 := B4.trans (hb5.mono B4.size); obtain ⟨cT5, cS5, cN5, cL5, cR5, fR5, _, _⟩ := HF.out w5 B5) | (refine ⟨trivial, ?_⟩))
          all_goals gi_wp2
          all_goals exact ⟨(HR.out _ B5).from (Nat.le_refl _), .inr ⟨rfl, HP.out⟩, (HR.out _ B5).mono (by omega)⟩
        · have hle' : (lastV pre : Int) < (t.1 : Int) := by omega
          clear HN hq
          generalize lastV pre = v at *
          by_cases h11 : pre.length + 1 = 1100
          · have hz11 : ((pre.length : Int) + 1 == 1100) = true := by rw [beq_iff_eq]; omega
            gi_wp2
            gi_region_with_o (first | (refine ⟨trivial, ?_⟩; gi_at_call 15; refine (CallsIn.inRound l (callsIn_wide.2 (HS0.out _))).mono ?_; rintro e w4 ⟨rfl, hb4⟩; have B4 := hdr.trans hb4; obtain ⟨cT4, cS4, cN4, cL4, cR4, fR4, _, _⟩ := HF.out w4 B4) | (refine ⟨trivial, ?_⟩; gi_at_call 19; refine (CallsIn.inRound l (callsIn_wide.2 (word64 _ _))).mono ?_; rintro e w5 ⟨rfl, hb5⟩; have B5 := B4.trans (hb5.mono B4.size); obtain ⟨cT5, cS5, cN5, cL5, cR5, fR5, _, _⟩ := HF.out w5 B5) | (refine ⟨trivial, ?_⟩))
            all_goals
              gi_wp2_with (refine ⟨trivial, ?_⟩; gi_at_call 19; refine (CallsIn.inRound l (callsIn_wide.2 (word64 _ _))).mono ?_; rintro e w6 ⟨rfl, hb6⟩; have B6 := B5.trans (hb6.mono B5.size); obtain ⟨cT6, cS6, cN6, cL6, cR6, fR6, fN6, fL6⟩ := HF.out w6 B6)
              obtain ⟨e1, e2, e3⟩ := HE.out w6 B6 _ rfl
              exact ⟨e2.from (Nat.le_refl _), .inl ⟨rfl, by rw [HLen.out, HLast.out]; exact e1, by rw [HLen.out]; exact h11⟩, e2.mono (by omega)⟩
          · have hz11 : ((pre.length : Int) + 1 == 1100) = false := by rw [beq_eq_false_iff_ne]; omega
            gi_wp2
            gi_region_with_o (first | (refine ⟨trivial, ?_⟩; gi_at_call 15; refine (CallsIn.inRound l (callsIn_wide.2 (HS0.out _))).mono ?_; rintro e w4 ⟨rfl, hb4⟩; have B4 := hdr.trans hb4; obtain ⟨cT4, cS4, cN4, cL4, cR4, fR4, _, _⟩ := HF.out w4 B4) | (refine ⟨trivial, ?_⟩; gi_at_call 19; refine (CallsIn.inRound l (callsIn_wide.2 (word64 _ _))).mono ?_; rintro e w5 ⟨rfl, hb5⟩; have B5 := B4.trans (hb5.mono B4.size); obtain ⟨cT5, cS5, cN5, cL5, cR5, fR5, _, _⟩ := HF.out w5 B5) | (refine ⟨trivial, ?_⟩))
            all_goals
              gi_wp2_with (refine ⟨trivial, ?_⟩; gi_at_call 19; refine (CallsIn.inRound l (callsIn_wide.2 (word64 _ _))).mono ?_; rintro e w6 ⟨rfl, hb6⟩; have B6 := B5.trans (hb6.mono B5.size); obtain ⟨cT6, cS6, cN6, cL6, cR6, fR6, fN6, fL6⟩ := HF.out w6 B6)
              obtain ⟨e1, e2, e3⟩ := HE.out w6 B6 _ rfl
              exact ⟨e2.from (Nat.le_refl _), e3, ⟨by rw [HLen.out, HLast.out]; exact e1, by rw [HLen.out]; omega⟩, e2.mono (by omega)⟩
    · have HS0 : Hid (∀ W, Calls Tryd.prog 15 #[.agg #[.int .u64 (t.1 : Int)], .agg #[.int .u64 (A : Int)]] W fun e w' => e = .returned (.bool false) ∧ Below W.heap.size W w') := fun W => by
        have := HS.out W; rw [show ((t.1 &&& (18446744073709551615 - A) : Nat) == 0) = false by rw [beq_eq_false_iff_ne]; exact hq] at this; exact this
      have HP : Hid (¬ (pre ++ [t]) <+: subsL (nums A)) := fun h => hq (HN.out h).1
      clear HS HN hq HE
      gi_wp2
      refine wpIn_region_any (by assumption) ?_
      change wpAnyIn _ _ _ _ _ _ _ _ _ (World.drew _)
      refine wpAnyIn_ready (rs := [0, 1]) (by kernel_rfl) (by simp) ?_
      refine AllReadyIn.cons rfl (fun K hK => ?_) ?_
      · go_simp
        refine hK _ _ ?_
        clear hK K
        refine wpAnyIn_ready (rs := [1]) (by kernel_rfl) (by simp) ?_
        refine AllReadyIn.cons rfl (fun K hK => ?_) ?_
        · go_simp
          refine hK _ _ ?_
          clear hK K
          refine wpAnyIn_ready (rs := [2]) (by kernel_rfl) (by simp) ?_
          refine AllReadyIn.cons rfl (fun K hK => ?_) ?_
          · go_simp; refine ⟨trivial, ?_⟩; gi_at_call 15; refine (CallsIn.inRound l (callsIn_wide.2 (HS0.out _))).mono ?_; rintro e w4 ⟨rfl, hb4⟩; have B4 := hdr.trans hb4; obtain ⟨cT4, cS4, cN4, cL4, cR4, fR4, _, _⟩ := HF.out w4 B4
            refine hK _ _ ?_
            clear hK K
            refine wpAnyIn_ready (rs := [3]) (by kernel_rfl) (by simp) ?_
            refine AllReadyIn.cons rfl (fun K hK => ?_) ?_
            · go_simp
              refine hK _ _ ?_
              clear hK K
              refine wpAnyIn_ready (rs := [4]) (by kernel_rfl) (by simp) ?_
              refine AllReadyIn.cons rfl (fun K hK => ?_) ?_
              · go_simp
                refine hK _ _ ?_
                clear hK K
                refine wpAnyIn_ready (rs := [5]) (by kernel_rfl) (by simp) ?_
                refine AllReadyIn.cons rfl (fun K hK => ?_) ?_
                · go_simp
                  refine hK _ _ ?_
                  clear hK K
                  refine wpAnyIn_ready (rs := [6]) (by kernel_rfl) (by simp) ?_
                  refine AllReadyIn.cons rfl (fun K hK => ?_) ?_
                  · go_simp
                    refine hK _ _ ?_
                    clear hK K
                    refine wpAnyIn_ready (rs := [7]) (by kernel_rfl) (by simp) ?_
                    refine AllReadyIn.cons rfl (fun K hK => ?_) ?_
                    · go_simp
                      refine hK _ _ ?_
                      clear hK K
                      refine wpAnyIn_ready (rs := [8]) (by kernel_rfl) (by simp) ?_
                      refine AllReadyIn.cons rfl (fun K hK => ?_) ?_
                      · go_simp; rw [if_neg (by decide)]
                        refine hK _ _ ?_
                        clear hK K
                        refine wpAnyIn_ready (rs := [9]) (by kernel_rfl) (by simp) ?_
                        refine AllReadyIn.cons rfl (fun K hK => ?_) ?_
                        · go_simp; first | (rw [if_neg (by decide)]; try refine ⟨trivial, ?_⟩) | (refine ⟨trivial, ?_⟩; rw [if_neg (by decide)])
                          refine hK _ _ ?_
                          clear hK K
                          refine wpAnyIn_ready (rs := [10]) (by kernel_rfl) (by simp) ?_
                          refine AllReadyIn.cons rfl (fun K hK => ?_) ?_
                          · go_simp; rw [if_neg (by decide)]
                            refine hK _ _ ?_
                            clear hK K
                            refine wpAnyIn_ready (rs := [11]) (by kernel_rfl) (by simp) ?_
                            refine AllReadyIn.cons rfl (fun K hK => ?_) ?_
                            · go_simp
                              refine hK _ _ ?_
                              clear hK K
                              refine wpAnyIn_ready (rs := [12]) (by kernel_rfl) (by simp) ?_
                              refine AllReadyIn.cons rfl (fun K hK => ?_) ?_
                              · go_simp
                                refine hK _ _ ?_
                                clear hK K
                                refine wpAnyIn_ready (rs := [13]) (by kernel_rfl) (by simp) ?_
                                refine AllReadyIn.cons rfl (fun K hK => ?_) ?_
                                · go_simp
                                  refine hK _ _ ?_
                                  clear hK K
                                  refine wpAnyIn_ready (rs := [14]) (by kernel_rfl) (by simp) ?_
                                  refine AllReadyIn.cons rfl (fun K hK => ?_) ?_
                                  · go_simp
                                    refine hK _ _ ?_
                                    clear hK K
                                    refine wpAnyIn_ready (rs := [15]) (by kernel_rfl) (by simp) ?_
                                    refine AllReadyIn.cons rfl (fun K hK => ?_) ?_
                                    · go_simp
                                      refine hK _ _ ?_
                                      clear hK K
                                      refine wpAnyIn_ready (rs := [16]) (by kernel_rfl) (by simp) ?_
                                      refine AllReadyIn.cons rfl (fun K hK => ?_) ?_
                                      · go_simp
                                        refine hK _ _ ?_
                                        clear hK K
                                        refine wpAnyIn_ready (rs := [17, 19]) (by kernel_rfl) (by simp) ?_
                                        refine AllReadyIn.cons rfl (fun K hK => ?_) ?_
                                        · go_simp; rw [if_neg (by decide)]
                                          refine hK _ _ ?_
                                          clear hK K
                                          refine wpAnyIn_ready (rs := [18, 19]) (by kernel_rfl) (by simp) ?_
                                          refine AllReadyIn.cons rfl (fun K hK => ?_) ?_
                                          · go_simp; first | (rw [if_neg (by decide)]; try refine ⟨trivial, ?_⟩) | (refine ⟨trivial, ?_⟩; rw [if_neg (by decide)])
                                            refine hK _ _ ?_
                                            clear hK K
                                            refine wpAnyIn_ready (rs := [19]) (by kernel_rfl) (by simp) ?_
                                            refine AllReadyIn.cons rfl (fun K hK => ?_) ?_
                                            · go_simp; rw [if_neg (by decide)]
                                              refine hK _ _ ?_
                                              clear hK K
                                              refine wpAnyIn_ready (rs := [20]) (by kernel_rfl) (by simp) ?_
                                              refine AllReadyIn.cons rfl (fun K hK => ?_) ?_
                                              · go_simp; rw [if_neg (by decide)]
                                                refine hK _ _ ?_
                                                clear hK K
                                                refine wpAnyIn_ready (rs := [21]) (by kernel_rfl) (by simp) ?_
                                                refine AllReadyIn.cons rfl (fun K hK => ?_) ?_
                                                · go_simp
                                                  refine hK _ _ ?_
                                                  clear hK K
                                                  refine wpAnyIn_ready (rs := [22]) (by kernel_rfl) (by simp) ?_
                                                  refine AllReadyIn.cons rfl (fun K hK => ?_) ?_
                                                  · go_simp
                                                    refine hK _ _ ?_
                                                    clear hK K
                                                    refine wpAnyIn_done (by kernel_rfl) ?_ _
                                                    gi_wp2
                                                    exact ⟨(HR.out _ B4).from (Nat.le_refl _), .inr ⟨rfl, HP.out⟩, (HR.out _ B4).mono (by omega)⟩
                                                  exact AllReadyIn.nil
                                                exact AllReadyIn.nil
                                              exact AllReadyIn.nil
                                            exact AllReadyIn.nil
                                          refine AllReadyIn.cons rfl (fun K hK => ?_) ?_
                                          · go_simp; rw [if_neg (by decide)]
                                            refine hK _ _ ?_
                                            clear hK K
                                            refine wpAnyIn_ready (rs := [18]) (by kernel_rfl) (by simp) ?_
                                            refine AllReadyIn.cons rfl (fun K hK => ?_) ?_
                                            · go_simp; first | (rw [if_neg (by decide)]; try refine ⟨trivial, ?_⟩) | (refine ⟨trivial, ?_⟩; rw [if_neg (by decide)])
                                              refine hK _ _ ?_
                                              clear hK K
                                              refine wpAnyIn_ready (rs := [20]) (by kernel_rfl) (by simp) ?_
                                              refine AllReadyIn.cons rfl (fun K hK => ?_) ?_
                                              · go_simp; rw [if_neg (by decide)]
                                                refine hK _ _ ?_
                                                clear hK K
                                                refine wpAnyIn_ready (rs := [21]) (by kernel_rfl) (by simp) ?_
                                                refine AllReadyIn.cons rfl (fun K hK => ?_) ?_
                                                · go_simp
                                                  refine hK _ _ ?_
                                                  clear hK K
                                                  refine wpAnyIn_ready (rs := [22]) (by kernel_rfl) (by simp) ?_
                                                  refine AllReadyIn.cons rfl (fun K hK => ?_) ?_
                                                  · go_simp
                                                    refine hK _ _ ?_
                                                    clear hK K
                                                    refine wpAnyIn_done (by kernel_rfl) ?_ _
                                                    gi_wp2
                                                    exact ⟨(HR.out _ B4).from (Nat.le_refl _), .inr ⟨rfl, HP.out⟩, (HR.out _ B4).mono (by omega)⟩
                                                  exact AllReadyIn.nil
                                                exact AllReadyIn.nil
                                              exact AllReadyIn.nil
                                            exact AllReadyIn.nil
                                          exact AllReadyIn.nil
                                        refine AllReadyIn.cons rfl (fun K hK => ?_) ?_
                                        · go_simp; rw [if_neg (by decide)]
                                          refine hK _ _ ?_
                                          clear hK K
                                          refine wpAnyIn_ready (rs := [17]) (by kernel_rfl) (by simp) ?_
                                          refine AllReadyIn.cons rfl (fun K hK => ?_) ?_
                                          · go_simp; rw [if_neg (by decide)]
                                            refine hK _ _ ?_
                                            clear hK K
                                            refine wpAnyIn_ready (rs := [18]) (by kernel_rfl) (by simp) ?_
                                            refine AllReadyIn.cons rfl (fun K hK => ?_) ?_
                                            · go_simp; first | (rw [if_neg (by decide)]; try refine ⟨trivial, ?_⟩) | (refine ⟨trivial, ?_⟩; rw [if_neg (by decide)])
                                              refine hK _ _ ?_
                                              clear hK K
                                              refine wpAnyIn_ready (rs := [20]) (by kernel_rfl) (by simp) ?_
                                              refine AllReadyIn.cons rfl (fun K hK => ?_) ?_
                                              · go_simp; rw [if_neg (by decide)]
                                                refine hK _ _ ?_
                                                clear hK K
                                                refine wpAnyIn_ready (rs := [21]) (by kernel_rfl) (by simp) ?_
                                                refine AllReadyIn.cons rfl (fun K hK => ?_) ?_
                                                · go_simp
                                                  refine hK _ _ ?_
                                                  clear hK K
                                                  refine wpAnyIn_ready (rs := [22]) (by kernel_rfl) (by simp) ?_
                                                  refine AllReadyIn.cons rfl (fun K hK => ?_) ?_
                                                  · go_simp
                                                    refine hK _ _ ?_
                                                    clear hK K
                                                    refine wpAnyIn_done (by kernel_rfl) ?_ _
                                                    gi_wp2
                                                    exact ⟨(HR.out _ B4).from (Nat.le_refl _), .inr ⟨rfl, HP.out⟩, (HR.out _ B4).mono (by omega)⟩
                                                  exact AllReadyIn.nil
                                                exact AllReadyIn.nil
                                              exact AllReadyIn.nil
                                            exact AllReadyIn.nil
                                          exact AllReadyIn.nil
                                        exact AllReadyIn.nil
                                      exact AllReadyIn.nil
                                    exact AllReadyIn.nil
                                  exact AllReadyIn.nil
                                exact AllReadyIn.nil
                              exact AllReadyIn.nil
                            exact AllReadyIn.nil
                          exact AllReadyIn.nil
                        exact AllReadyIn.nil
                      exact AllReadyIn.nil
                    exact AllReadyIn.nil
                  exact AllReadyIn.nil
                exact AllReadyIn.nil
              exact AllReadyIn.nil
            exact AllReadyIn.nil
          exact AllReadyIn.nil
        exact AllReadyIn.nil
      refine AllReadyIn.cons rfl (fun K hK => ?_) ?_
      · go_simp
        refine hK _ _ ?_
        clear hK K
        refine wpAnyIn_ready (rs := [0]) (by kernel_rfl) (by simp) ?_
        refine AllReadyIn.cons rfl (fun K hK => ?_) ?_
        · go_simp
          refine hK _ _ ?_
          clear hK K
          refine wpAnyIn_ready (rs := [2]) (by kernel_rfl) (by simp) ?_
          refine AllReadyIn.cons rfl (fun K hK => ?_) ?_
          · go_simp; refine ⟨trivial, ?_⟩; gi_at_call 15; refine (CallsIn.inRound l (callsIn_wide.2 (HS0.out _))).mono ?_; rintro e w4 ⟨rfl, hb4⟩; have B4 := hdr.trans hb4; obtain ⟨cT4, cS4, cN4, cL4, cR4, fR4, _, _⟩ := HF.out w4 B4
            refine hK _ _ ?_
            clear hK K
            refine wpAnyIn_ready (rs := [3]) (by kernel_rfl) (by simp) ?_
            refine AllReadyIn.cons rfl (fun K hK => ?_) ?_
            · go_simp
              refine hK _ _ ?_
              clear hK K
              refine wpAnyIn_ready (rs := [4]) (by kernel_rfl) (by simp) ?_
              refine AllReadyIn.cons rfl (fun K hK => ?_) ?_
              · go_simp
                refine hK _ _ ?_
                clear hK K
                refine wpAnyIn_ready (rs := [5]) (by kernel_rfl) (by simp) ?_
                refine AllReadyIn.cons rfl (fun K hK => ?_) ?_
                · go_simp
                  refine hK _ _ ?_
                  clear hK K
                  refine wpAnyIn_ready (rs := [6]) (by kernel_rfl) (by simp) ?_
                  refine AllReadyIn.cons rfl (fun K hK => ?_) ?_
                  · go_simp
                    refine hK _ _ ?_
                    clear hK K
                    refine wpAnyIn_ready (rs := [7]) (by kernel_rfl) (by simp) ?_
                    refine AllReadyIn.cons rfl (fun K hK => ?_) ?_
                    · go_simp
                      refine hK _ _ ?_
                      clear hK K
                      refine wpAnyIn_ready (rs := [8]) (by kernel_rfl) (by simp) ?_
                      refine AllReadyIn.cons rfl (fun K hK => ?_) ?_
                      · go_simp; rw [if_neg (by decide)]
                        refine hK _ _ ?_
                        clear hK K
                        refine wpAnyIn_ready (rs := [9]) (by kernel_rfl) (by simp) ?_
                        refine AllReadyIn.cons rfl (fun K hK => ?_) ?_
                        · go_simp; first | (rw [if_neg (by decide)]; try refine ⟨trivial, ?_⟩) | (refine ⟨trivial, ?_⟩; rw [if_neg (by decide)])
                          refine hK _ _ ?_
                          clear hK K
                          refine wpAnyIn_ready (rs := [10]) (by kernel_rfl) (by simp) ?_
                          refine AllReadyIn.cons rfl (fun K hK => ?_) ?_
                          · go_simp; rw [if_neg (by decide)]
                            refine hK _ _ ?_
                            clear hK K
                            refine wpAnyIn_ready (rs := [11]) (by kernel_rfl) (by simp) ?_
                            refine AllReadyIn.cons rfl (fun K hK => ?_) ?_
                            · go_simp
                              refine hK _ _ ?_
                              clear hK K
                              refine wpAnyIn_ready (rs := [12]) (by kernel_rfl) (by simp) ?_
                              refine AllReadyIn.cons rfl (fun K hK => ?_) ?_
                              · go_simp
                                refine hK _ _ ?_
                                clear hK K
                                refine wpAnyIn_ready (rs := [13]) (by kernel_rfl) (by simp) ?_
                                refine AllReadyIn.cons rfl (fun K hK => ?_) ?_
                                · go_simp
                                  refine hK _ _ ?_
                                  clear hK K
                                  refine wpAnyIn_ready (rs := [14]) (by kernel_rfl) (by simp) ?_
                                  refine AllReadyIn.cons rfl (fun K hK => ?_) ?_
                                  · go_simp
                                    refine hK _ _ ?_
                                    clear hK K
                                    refine wpAnyIn_ready (rs := [15]) (by kernel_rfl) (by simp) ?_
                                    refine AllReadyIn.cons rfl (fun K hK => ?_) ?_
                                    · go_simp
                                      refine hK _ _ ?_
                                      clear hK K
                                      refine wpAnyIn_ready (rs := [16]) (by kernel_rfl) (by simp) ?_
                                      refine AllReadyIn.cons rfl (fun K hK => ?_) ?_
                                      · go_simp
                                        refine hK _ _ ?_
                                        clear hK K
                                        refine wpAnyIn_ready (rs := [17, 19]) (by kernel_rfl) (by simp) ?_
                                        refine AllReadyIn.cons rfl (fun K hK => ?_) ?_
                                        · go_simp; rw [if_neg (by decide)]
                                          refine hK _ _ ?_
                                          clear hK K
                                          refine wpAnyIn_ready (rs := [18, 19]) (by kernel_rfl) (by simp) ?_
                                          refine AllReadyIn.cons rfl (fun K hK => ?_) ?_
                                          · go_simp; first | (rw [if_neg (by decide)]; try refine ⟨trivial, ?_⟩) | (refine ⟨trivial, ?_⟩; rw [if_neg (by decide)])
                                            refine hK _ _ ?_
                                            clear hK K
                                            refine wpAnyIn_ready (rs := [19]) (by kernel_rfl) (by simp) ?_
                                            refine AllReadyIn.cons rfl (fun K hK => ?_) ?_
                                            · go_simp; rw [if_neg (by decide)]
                                              refine hK _ _ ?_
                                              clear hK K
                                              refine wpAnyIn_ready (rs := [20]) (by kernel_rfl) (by simp) ?_
                                              refine AllReadyIn.cons rfl (fun K hK => ?_) ?_
                                              · go_simp; rw [if_neg (by decide)]
                                                refine hK _ _ ?_
                                                clear hK K
                                                refine wpAnyIn_ready (rs := [21]) (by kernel_rfl) (by simp) ?_
                                                refine AllReadyIn.cons rfl (fun K hK => ?_) ?_
                                                · go_simp
                                                  refine hK _ _ ?_
                                                  clear hK K
                                                  refine wpAnyIn_ready (rs := [22]) (by kernel_rfl) (by simp) ?_
                                                  refine AllReadyIn.cons rfl (fun K hK => ?_) ?_
                                                  · go_simp
                                                    refine hK _ _ ?_
                                                    clear hK K
                                                    refine wpAnyIn_done (by kernel_rfl) ?_ _
                                                    gi_wp2
                                                    exact ⟨(HR.out _ B4).from (Nat.le_refl _), .inr ⟨rfl, HP.out⟩, (HR.out _ B4).mono (by omega)⟩
                                                  exact AllReadyIn.nil
                                                exact AllReadyIn.nil
                                              exact AllReadyIn.nil
                                            exact AllReadyIn.nil
                                          refine AllReadyIn.cons rfl (fun K hK => ?_) ?_
                                          · go_simp; rw [if_neg (by decide)]
                                            refine hK _ _ ?_
                                            clear hK K
                                            refine wpAnyIn_ready (rs := [18]) (by kernel_rfl) (by simp) ?_
                                            refine AllReadyIn.cons rfl (fun K hK => ?_) ?_
                                            · go_simp; first | (rw [if_neg (by decide)]; try refine ⟨trivial, ?_⟩) | (refine ⟨trivial, ?_⟩; rw [if_neg (by decide)])
                                              refine hK _ _ ?_
                                              clear hK K
                                              refine wpAnyIn_ready (rs := [20]) (by kernel_rfl) (by simp) ?_
                                              refine AllReadyIn.cons rfl (fun K hK => ?_) ?_
                                              · go_simp; rw [if_neg (by decide)]
                                                refine hK _ _ ?_
                                                clear hK K
                                                refine wpAnyIn_ready (rs := [21]) (by kernel_rfl) (by simp) ?_
                                                refine AllReadyIn.cons rfl (fun K hK => ?_) ?_
                                                · go_simp
                                                  refine hK _ _ ?_
                                                  clear hK K
                                                  refine wpAnyIn_ready (rs := [22]) (by kernel_rfl) (by simp) ?_
                                                  refine AllReadyIn.cons rfl (fun K hK => ?_) ?_
                                                  · go_simp
                                                    refine hK _ _ ?_
                                                    clear hK K
                                                    refine wpAnyIn_done (by kernel_rfl) ?_ _
                                                    gi_wp2
                                                    exact ⟨(HR.out _ B4).from (Nat.le_refl _), .inr ⟨rfl, HP.out⟩, (HR.out _ B4).mono (by omega)⟩
                                                  exact AllReadyIn.nil
                                                exact AllReadyIn.nil
                                              exact AllReadyIn.nil
                                            exact AllReadyIn.nil
                                          exact AllReadyIn.nil
                                        refine AllReadyIn.cons rfl (fun K hK => ?_) ?_
                                        · go_simp; rw [if_neg (by decide)]
                                          refine hK _ _ ?_
                                          clear hK K
                                          refine wpAnyIn_ready (rs := [17]) (by kernel_rfl) (by simp) ?_
                                          refine AllReadyIn.cons rfl (fun K hK => ?_) ?_
                                          · go_simp; rw [if_neg (by decide)]
                                            refine hK _ _ ?_
                                            clear hK K
                                            refine wpAnyIn_ready (rs := [18]) (by kernel_rfl) (by simp) ?_
                                            refine AllReadyIn.cons rfl (fun K hK => ?_) ?_
                                            · go_simp; first | (rw [if_neg (by decide)]; try refine ⟨trivial, ?_⟩) | (refine ⟨trivial, ?_⟩; rw [if_neg (by decide)])
                                              refine hK _ _ ?_
                                              clear hK K
                                              refine wpAnyIn_ready (rs := [20]) (by kernel_rfl) (by simp) ?_
                                              refine AllReadyIn.cons rfl (fun K hK => ?_) ?_
                                              · go_simp; rw [if_neg (by decide)]
                                                refine hK _ _ ?_
                                                clear hK K
                                                refine wpAnyIn_ready (rs := [21]) (by kernel_rfl) (by simp) ?_
                                                refine AllReadyIn.cons rfl (fun K hK => ?_) ?_
                                                · go_simp
                                                  refine hK _ _ ?_
                                                  clear hK K
                                                  refine wpAnyIn_ready (rs := [22]) (by kernel_rfl) (by simp) ?_
                                                  refine AllReadyIn.cons rfl (fun K hK => ?_) ?_
                                                  · go_simp
                                                    refine hK _ _ ?_
                                                    clear hK K
                                                    refine wpAnyIn_done (by kernel_rfl) ?_ _
                                                    gi_wp2
                                                    exact ⟨(HR.out _ B4).from (Nat.le_refl _), .inr ⟨rfl, HP.out⟩, (HR.out _ B4).mono (by omega)⟩
                                                  exact AllReadyIn.nil
                                                exact AllReadyIn.nil
                                              exact AllReadyIn.nil
                                            exact AllReadyIn.nil
                                          exact AllReadyIn.nil
                                        exact AllReadyIn.nil
                                      exact AllReadyIn.nil
                                    exact AllReadyIn.nil
                                  exact AllReadyIn.nil
                                exact AllReadyIn.nil
                              exact AllReadyIn.nil
                            exact AllReadyIn.nil
                          exact AllReadyIn.nil
                        exact AllReadyIn.nil
                      exact AllReadyIn.nil
                    exact AllReadyIn.nil
                  exact AllReadyIn.nil
                exact AllReadyIn.nil
              exact AllReadyIn.nil
            exact AllReadyIn.nil
          exact AllReadyIn.nil
        exact AllReadyIn.nil
      exact AllReadyIn.nil
  case done =>
    rintro D ys V hD rfl ⟨hSI, hn⟩ hK
    refine tail D _ _ V hD hSI hK (.inl ⟨subs_len _, ?_, ?_⟩)
    · obtain ⟨r, t, hr, h1⟩ := subs_last (nums A)
      rw [hr, lastV_snoc, h1, word_nums A hA]
    · rw [subs_len] at hn
      rcases Nat.lt_or_ge (nums A).length 11 with h | h
      · omega
      · have := Nat.pow_le_pow_right (show 0 < 2 by decide) h
        omega
  case stop =>
    rintro D c pre V hD hp (⟨rfl, hSI, hn⟩ | ⟨rfl, h1⟩) hK
    · gi_wp2
      refine tail D _ _ V hD hSI hK (.inr ⟨hn, ?_⟩)
      have := hp.length_le
      rw [subs_len, hn] at this
      rcases Nat.lt_or_ge (nums A).length 11 with h | h
      · have := Nat.pow_le_pow_right (show 0 < 2 by decide) (show (nums A).length ≤ 10 by omega)
        omega
      · exact h
    · exact absurd hp h1
end Go.Proofs.YtajfafckhipgeaaDoor
