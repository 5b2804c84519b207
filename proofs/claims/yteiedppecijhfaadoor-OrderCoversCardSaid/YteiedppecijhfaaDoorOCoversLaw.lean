/- OrderCovers answers true. -/
import Derived.Test.YteiedppecijhfaaDoorOBoth
import Derived.Test.YteiedppecijhfaaDoorOCoversM
import Derived.Laws.AppendOwn
import Derived.Laws.BitsLemmas
namespace Go.Proofs.YteiedppecijhfaaDoor
open Go.RowKit Go.Shelf
theorem keep1i {W0 W w1 : World} {b i : Nat} {u : Value} (h : W.cell? ⟨b, i, none⟩ = some u ∧ Below W0.heap.size W0 W) (hb : Below W.heap.size W w1) :
    w1.cell? ⟨b, i, none⟩ = some u ∧ Below W0.heap.size W0 w1 := ⟨cell_over h.1 hb, h.2.trans (hb.mono h.2.size)⟩
theorem tmod_bdl (z : Int) {l : Nat} (h : 0 < l) : -(l : Int) < z.tmod l ∧ z.tmod l < l := by
  have h1 := Int.tmod_lt_of_pos z (show (0 : Int) < l by omega)
  have h2 := Int.tmod_lt_of_pos (-z) (show (0 : Int) < l by omega)
  rw [Int.neg_tmod] at h2
  omega
theorem wr1 (k : Nat) (h : k < 1000000) : IntKind.i64.wrap ((k : Int) + 1) = (k : Int) + 1 := by
  rw [IntKind.wrap_i64]
  omega
theorem keep2i {W0 W w1 : World} {b0 i0 b1 i1 : Nat} {u0 u1 : Value} (h : W.cell? ⟨b0, i0, none⟩ = some u0 ∧ W.cell? ⟨b1, i1, none⟩ = some u1 ∧ Below W0.heap.size W0 W) (hb : Below W.heap.size W w1) :
    w1.cell? ⟨b0, i0, none⟩ = some u0 ∧ w1.cell? ⟨b1, i1, none⟩ = some u1 ∧ Below W0.heap.size W0 w1 := ⟨cell_over h.1 hb, cell_over h.2.1 hb, h.2.2.trans (hb.mono h.2.2.size)⟩
/-- Where l[k+1:] begins. -/
def adr2 (g o cap k : Nat) : Addr := if cap = k + 1 then ⟨g, o, none⟩ else ⟨g, o + (k + 1) * 2, none⟩
theorem sliceH (g o k l cap : Nat) (h1 : k < l) (h2 : l ≤ cap) (W : World) : (Instr.sliceAt 22 (.slice (some ⟨g, o, none⟩) l cap) none (some (.int .i64 (k : Int))) none).run Tryd.prog W = .ok (.slice (some ⟨g, o, none⟩) k cap) W := by
  have e1 : ¬ cap = 0 := by omega
  rw [run_sliceAt_slice _ _ _ _ _ _ (by kernel_rfl), run_slice_h _ _ _ _ _ (by kernel_rfl) _ _ (by omega) (by omega)]
  simp [go_sem, sliced, e1, Addr.add]
theorem sliceL (g o k l cap : Nat) (h1 : k < l) (W : World) : (Instr.sliceAt 22 (.slice (some ⟨g, o, none⟩) l cap) (some (.int .i64 ((k : Int) + 1))) none none).run Tryd.prog W = .ok (.slice (some (adr2 g o cap k)) (l - (k + 1)) (cap - (k + 1))) W := by
  rw [run_sliceAt_slice _ _ _ _ _ _ (by kernel_rfl), run_slice_l _ _ _ _ _ (by kernel_rfl) _ _ (by omega) (by omega)]
  have e2 : ((k : Int) + 1).toNat = k + 1 := by omega
  unfold adr2
  by_cases h : cap = k + 1
  · simp [go_sem, sliced, h, e2]
  · simp [go_sem, sliced, h, e2, Addr.add]
theorem pairs_take {W : World} {C : List (Int × Int)} {g o cap : Nat} (hv : PairsAt W (.slice (some ⟨g, o, none⟩) C.length cap) C) {k : Nat} (hk : k < C.length) : PairsAt W (.slice (some ⟨g, o, none⟩) k cap) (C.take k) := by
  obtain ⟨oa, cap', e, hc, h⟩ := hv
  cases e
  refine ⟨_, cap, by rw [List.length_take, Nat.min_eq_left (by omega)], ⟨by rw [List.length_take]; omega, fun e => by cases e⟩, fun i p hp => ?_⟩
  rw [List.getElem?_take] at hp
  by_cases hi : i < k
  · rw [if_pos hi] at hp; exact h i p hp
  · rw [if_neg hi] at hp; cases hp
theorem pairs_drop {W : World} {C : List (Int × Int)} {g o cap : Nat} (hv : PairsAt W (.slice (some ⟨g, o, none⟩) C.length cap) C) {k : Nat} : ∀ j u, (cellsP (C.drop (k + 1)))[j]? = some u → W.cell? ((adr2 g o cap k).add j) = some u := fun j u hu => by
  obtain ⟨oa, cap', e, hc, h⟩ := hv
  cases e
  obtain ⟨i, p, hp, hor⟩ := cellsP_inv hu
  rw [List.getElem?_drop] at hp
  have hlt := (List.getElem?_eq_some_iff.1 hp).1
  obtain ⟨g', o', e, c1, c2⟩ := h _ p hp
  cases e
  unfold adr2
  rw [if_neg (by omega), Addr.add_lit]
  rcases hor with ⟨rfl, rfl⟩ | ⟨rfl, rfl⟩
  · rw [show o + (k + 1) * 2 + i * 2 = o + (k + 1 + i) * 2 by omega]; exact c1
  · rw [show o + (k + 1) * 2 + (i * 2 + 1) = o + (k + 1 + i) * 2 + 1 by omega]; exact c2
theorem cellsP_app (L M : List (Int × Int)) : cellsP L ++ cellsP M = cellsP (L ++ M) := by unfold cellsP; rw [List.flatMap_append]
theorem owns_row_ge {W : World} {base : Nat} {e : TypeId} {size : Nat} {v : Value} {n : Nat} {xs : List Value} (h : W.ownsRow base e size v n xs) : ∀ g, v.ownBlock = some g → base ≤ g := fun g hg => by
  rcases h.2 with ⟨rfl, _⟩ | ⟨g', cap, cur, rfl, hge, _⟩
  · simp [Value.ownBlock] at hg
  · obtain rfl : g' = g := by simpa [Value.ownBlock] using hg
    exact hge
set_option maxRecDepth 100000 in
set_option maxHeartbeats 1000000 in
theorem orderCovers_walk (n : Int) (v : Value) (L : List (Int × Int)) (A B s : Int) (ob : Option Addr) (lb cb : Nat) (mo : Int) (w : World) (hv : PairsAt w v L) (hn : L.length * 16 ≤ 140737488351232) (ht : Tab w) :
    Calls Tryd.prog 5 #[.agg #[.int .i64 n, v, .int .i64 A, .int .i64 B, .int .u64 s, .slice ob lb cb, .int .u64 mo]] w fun e w' => e = .returned (.bool true) ∧ Below w.heap.size w w' := by
  obtain ⟨oa, cap, hve, _⟩ := id hv
  subst hve
  have hB0 : Below w.heap.size w (w.alloc (.cells #[.int .i64 n, .slice oa L.length cap, .int .i64 A, .int .i64 B, .int .u64 s, .slice ob lb cb, .int .u64 mo] 26)) := (Below.refl _ w).alloc (Nat.le_refl _) _
  have c2 : (w.alloc (.cells #[.int .i64 n, .slice oa L.length cap, .int .i64 A, .int .i64 B, .int .u64 s, .slice ob lb cb, .int .u64 mo] 26)).cell? ⟨w.heap.size, 2, none⟩ = some (.int .i64 A) := by simp
  have KB := hide' (bothP n _ L A B s ob lb cb mo _ (hv.over hB0) hn (ht.over hB0))
  go_enter Tryd.func5, Tryd.ntmps5
  go_wp2_with fail
  refine KB.out.mono ?_
  rintro e w1 ⟨hb1, po, pr, rfl, hor⟩
  have B1 := hB0.trans (hb1.mono hB0.size)
  have d2 := cell_over c2 hb1
  clear c2 KB
  rcases hor with ⟨rfl, rfl⟩ | ⟨m, go, gp, gs, Pf, Sf, gr, ov, rr, w0, rfl, hok, rfl, rfl, ho, hO, hM⟩
  · go_wp2
    go_ret
    exact ⟨rfl, B1⟩
  · have hm := hO.n64
    have cN := hM.c0
    have KC := hide' (coversO ho hm (fun a ha => hO.pre_lt ha) (fun a ha => hO.suc_lt ha) (fun a ha => hO.nums_in ha) (ht.over B1))
    rw [hO.cov_all] at KC
    have hcl : (cvK (ordL m L) m m).length ≤ 1000000 := by
      have := cvK_len (ordL m L) m m
      have : m * m ≤ 64 * 64 := Nat.mul_le_mul hm hm
      omega
    have hgood := hO.good_sub (C := cvK (ordL m L) m m) (fun _ h => h)
    have hncyc := hO.ncyc_sub (C := cvK (ordL m L) m m) (fun _ h => h)
    have hpre : Hid (∀ Pf' Sf', Ord m (ordL m (cvK (ordL m L) m m)) Pf' Sf' → ∀ a : Nat, a < m → preI m Pf' a = preI m Pf a) := fun Pf' Sf' h' a ha => by
      unfold preI
      rw [if_pos (by omega), if_pos (by omega), Int.toNat_natCast]
      exact hO.pre_same h' ha
    have hless : Hid (∀ (k : Nat) (p : Int × Int), (cvK (ordL m L) m m)[k]? = some p → befI (ordL m ((cvK (ordL m L) m m).take k ++ (cvK (ordL m L) m m).drop (k + 1))) p.1 p.2 = false) := fun k p hp => by
      obtain ⟨a, b, rfl, _, _, _⟩ := mem_cvK.1 (List.mem_of_getElem? hp)
      unfold befI
      simp only [Int.toNat_natCast]
      rw [(hO.cov_less hp).1, Bool.and_false]
    have hlg : Hid (∀ (k : Nat), goodP m ((cvK (ordL m L) m m).take k ++ (cvK (ordL m L) m m).drop (k + 1)) ∧ ¬ cycL m ((cvK (ordL m L) m m).take k ++ (cvK (ordL m L) m m).drop (k + 1))) := fun k => by
      have hs : ∀ p ∈ (cvK (ordL m L) m m).take k ++ (cvK (ordL m L) m m).drop (k + 1), p ∈ cvK (ordL m L) m m := fun p hp => by
        rcases List.mem_append.1 hp with hp | hp
        · exact List.mem_of_mem_take hp
        · exact List.mem_of_mem_drop hp
      exact ⟨hO.good_sub hs, hO.ncyc_sub hs⟩
    clear hO hM hok hv
    generalize cvK (ordL m L) m m = C at *
    go_wp2_with fail
    refine KC.out.mono ?_
    rintro e w2 ⟨vc, rfl, hown, hb2⟩
    have hvc := PairsAt.of_owns hown
    obtain ⟨oc, cc, rfl, hcc, _⟩ := id hvc
    have B2 := B1.trans (hb2.mono B1.size)
    have cN2 := cell_over cN hb2
    have d22 := cell_over d2 hb2
    have ho2 := ho.over hb2
    have t2 := ht.over B2
    clear KC hown cN d2 ho
    have KT : Hid (∀ W, Below w2.heap.size w2 W → Calls Tryd.prog 29 #[.slice oc C.length cc] W fun e w' => ∃ v', e = .returned v' ∧ PairsAt w' v' C ∧ Below W.heap.size W w') := fun W hW => twinP C _ W (hvc.over hW) (by omega)
    have KN : Hid (∀ W v', PairsAt W v' C → Below w2.heap.size w2 W → Calls Tryd.prog 28 #[.int .i64 m, v'] W fun e w' => ∃ po z, e = .returned (.tuple #[.pointer po, .int .i64 z]) ∧ Hid (NewC W m C po z w') ∧ Below W.heap.size W w') := fun W v' hv' hW => newT m v' C W hv' (by omega) (t2.over hW)
    have hi0 : Hid (w2.drew.cell? ⟨gr, 0, none⟩ = some (.int .i64 m) ∧ Below w2.heap.size w2 w2.drew) := ⟨cN2, (Below.refl _ _).drew⟩
    go_wp2_with fail
    go_region_held3 (fun V => V.cell? ⟨gr, 0, none⟩ = some (.int .i64 m) ∧ Below w2.heap.size w2 V) (first | (exact keep1i (by assumption) hb) | (exact keep1i hi0.out hb) | (exact hi0.out)) (first | (go_at_call 29; refine (KT.out _ (by first | exact ‹_ ∧ _›.2 | exact (Below.refl _ _).drew)).mono ?_; rintro e w3 ⟨v1, rfl, hv1, hb⟩) | (go_at_call 28; refine (KN.out _ _ hv1 (by first | exact ‹_ ∧ _›.2 | exact (Below.refl _ _).drew)).mono ?_; rintro e w4 ⟨po, z, rfl, hC, hb⟩))
    all_goals
      obtain ⟨_, hB4⟩ := ‹w4.cell? ⟨gr, 0, none⟩ = some (.int .i64 m) ∧ Below w2.heap.size w2 w4›
      clear KT KN hi0
      rcases hC.out with ⟨g1, _, _⟩ | ⟨_, g2, _, _⟩ | ⟨_, _, rfl, go2, gp2, gs2, Pf2, Sf2, rfl, _, ho4, hO4⟩
      · exact absurd hgood g1
      · rw [Int.toNat_natCast] at g2; exact absurd g2 hncyc
      rw [Int.toNat_natCast] at ho4 hO4
      have hpe := hpre.out _ _ hO4
      clear hC hpre hO4 hgood hncyc
      have K3 : Hid (∀ (a : Nat), a < m → ∀ W, Below w4.heap.size w4 W → Calls Tryd.prog 11 #[.pointer (some ⟨go2, 0, none⟩), .int .i64 a] W fun e w' => e = .returned (.int .u64 (preI m Pf a : Int)) ∧ Below W.heap.size W w') := fun a ha W hW => by
        have := predsO (ho4.over hW) a
        rwa [hpe a ha] at this
      have K4 : Hid (∀ (a : Nat) W, Below w4.heap.size w4 W → Calls Tryd.prog 11 #[.pointer (some ⟨go, 0, none⟩), .int .i64 a] W fun e w' => e = .returned (.int .u64 (preI m Pf a : Int)) ∧ Below W.heap.size W w') := fun a W hW => predsO ((ho2.over hB4).over hW) a
      generalize preI m Pf = pf at *
      have B4 := B2.trans (hB4.mono B2.size)
      have cN4 := cell_over cN2 hB4
      have d24 := cell_over d22 hB4
      have hv4 := hvc.over hB4
      have t4 := t2.over hB4
      clear hpe ho2 ho4 cN2 d22 hvc t2
      go_wp2
      go_loopw [9] (fun pa W => ∃ a : Nat, a ≤ m ∧ pa = .int .i64 a ∧ Below w4.heap.size w4 W) (fun pa _ => ((m : Int) - intOf pa).toNat)
      case atStart => exact ⟨0, Nat.zero_le _, rfl, Below.refl _ _⟩
      case round =>
        obtain ⟨a, ha, rfl, hBW⟩ := hrel
        have cN' := cell_over cN4 hBW
        by_cases hlt : a < m
        · go_wp2_with fail
          refine (K3.out _ hlt _ hBW).mono ?_
          rintro e w5 ⟨rfl, hb5⟩
          have hB5 := hBW.trans (hb5.mono hBW.size)
          go_wp2_with fail
          refine (K4.out _ _ hB5).mono ?_
          rintro e w6 ⟨rfl, hb6⟩
          have hB6 := hB5.trans (hb6.mono hB5.size)
          go_wp2
          exact ⟨⟨a + 1, by omega, by go_num, hB6⟩, by simp [intOf]; omega⟩
        · obtain rfl : m = a := by omega
          have B5 := B4.trans (hBW.mono B4.size)
          have cA := cell_over d24 hBW
          have hv5 := hv4.over hBW
          have t5 := t4.over hBW
          clear K3 K4 cN4 d24 hv4 t4 hBW hB4 ha hlt
          by_cases hl0 : C.length = 0
          · go_wp2
            go_ret
            exact ⟨rfl, B5⟩
          · have hl1 : ((C.length : Int) == 0) = false := by simpa using hl0
            obtain ⟨tz1, tz2⟩ := tmod_bdl A (show 0 < C.length by omega)
            obtain ⟨i0, hi, hz0, hz1, hz2⟩ := info_q infoP
            go_wp2
            all_goals
              obtain ⟨k, hk, hkl⟩ : ∃ k : Nat, (A.tmod C.length = (k : Int) ∨ A.tmod C.length + C.length = (k : Int)) ∧ k < C.length := by
                first
                  | exact ⟨(A.tmod C.length).toNat, .inl (by rw [Int.toNat_of_nonneg (by omega)]), by omega⟩
                  | exact ⟨(A.tmod C.length + C.length).toNat, .inr (by rw [Int.toNat_of_nonneg (by omega)]), by omega⟩
              rcases hk with hk | hk
              all_goals first | (exfalso; omega) | skip
            all_goals
              rw [hk]
              clear hk tz1 tz2 cA hl1
              obtain ⟨p, hp⟩ : ∃ p, C[k]? = some p := ⟨C[k], List.getElem?_eq_getElem hkl⟩
              obtain ⟨gc, fc, rfl, _⟩ : ∃ gc fc, oc = some ⟨gc, fc, none⟩ ∧ True := by
                obtain ⟨_, _, e, _, h⟩ := hv5
                cases e
                obtain ⟨g, o, e, _⟩ := h k p hp
                exact ⟨g, o, e, trivial⟩
              have hcc1 := hcc.1
              have hs1 : ∀ W : World, (Instr.sliceAt 22 (.slice (some ⟨gc, fc, none⟩) C.length cc) none (some (.int .i64 (k : Int))) none).run Tryd.prog W = .ok (.slice (some ⟨gc, fc, none⟩) k cc) W := fun W => sliceH gc fc k _ cc hkl hcc1 W
              have hs2 : ∀ W : World, (Instr.sliceAt 22 (.slice (some ⟨gc, fc, none⟩) C.length cc) (some (.int .i64 ((k : Int) + 1))) none none).run Tryd.prog W = .ok (.slice (some (adr2 gc fc cc k)) (C.length - (k + 1)) (cc - (k + 1))) W := fun W => sliceL gc fc k _ cc hkl W
              have hb1' : (0 : Int) ≤ (k : Int) := by omega
              have hb2' : (0 : Int) ≤ (k : Int) + 1 := by omega
              have hb3' : (k : Int) + 1 ≤ (C.length : Int) := by omega
              have hwr : IntKind.i64.wrap ((k : Int) + 1) = (k : Int) + 1 := wr1 k (by omega)
              have htn : ((k : Int) + 1).toNat = k + 1 := by omega
              have hlt : (C.take k).length = k := by rw [List.length_take]; omega
              have hld : (C.drop (k + 1)).length = C.length - (k + 1) := List.length_drop
              have hlad : (C.take k ++ C.drop (k + 1)).length ≤ 1000000 := by rw [List.length_append]; omega
              have hcd : Hid (∀ W, Below wr.heap.size wr W → ∀ j u, (cellsP (C.drop (k + 1)))[j]? = some u → W.cell? ((adr2 gc fc cc k).add j) = some u) := fun W hW => pairs_drop (hv5.over hW)
              have hpc : Hid (∀ W, Below wr.heap.size wr W → W.cell? ⟨gc, fc + k * 2, none⟩ = some (.int .i64 p.1) ∧ W.cell? ⟨gc, fc + k * 2 + 1, none⟩ = some (.int .i64 p.2)) := fun W hW => by
                obtain ⟨_, _, e, _, h⟩ := hv5.over hW
                cases e
                obtain ⟨g, o, e, h⟩ := h k p hp
                cases e
                exact h
              have KT : Hid (∀ W, Below wr.heap.size wr W → Calls Tryd.prog 29 #[.slice (some ⟨gc, fc, none⟩) k cc] W fun e w' => ∃ v', e = .returned v' ∧ w'.ownsRow W.heap.size 53 2 v' k (cellsP (C.take k)) ∧ Below W.heap.size W w') := fun W hW => by
                have := twinO (C.take k) _ W ((pairs_take (hv5.over hW)) hkl) (by omega)
                rwa [hlt] at this
              have KN : Hid (∀ W v', PairsAt W v' (C.take k ++ C.drop (k + 1)) → Below wr.heap.size wr W → Calls Tryd.prog 28 #[.int .i64 m, v'] W fun e w' => ∃ po z, e = .returned (.tuple #[.pointer po, .int .i64 z]) ∧ Hid (NewC W m (C.take k ++ C.drop (k + 1)) po z w') ∧ Below W.heap.size W w') := fun W v' hv' hW => newT m v' _ W hv' (by omega) (t5.over hW)
              have hless' := hless.out k p hp
              obtain ⟨hg, hnc⟩ := hlg.out k
              have hi0 : Hid (wr.drew.cell? ⟨gr, 0, none⟩ = some (.int .i64 m) ∧ Below wr.heap.size wr wr.drew) := ⟨cN', (Below.refl _ _).drew⟩
              clear hv5 t5 hless hlg hp
              have KA : Hid (∀ {o : Oper} {a : Act} {K : Act → World → Prop} {Q : Exit → Act → World → Prop} (W0 W : World) (v' : Value), o.op = .call { callee := .builtin .append, args := #[.tmp 80, .tmp 84], argTypes := #[22, 22] } → a.eval (.tmp 80) = v' → a.eval (.tmp 84) = .slice (some (adr2 gc fc cc k)) (C.length - (k + 1)) (cc - (k + 1)) → W.ownsRow W0.heap.size 53 2 v' k (cellsP (C.take k)) → Below W0.heap.size W0 W → Below wr.heap.size wr W → (∀ v2 w2, PairsAt w2 v2 (C.take k ++ C.drop (k + 1)) → Below W0.heap.size W0 w2 → K (a.put o.dst v2) w2) → o.wp Tryd.prog a W K Q) := by
                intro o a K Q W0 W v' ho e1 e2 hown hb hW hK
                refine wp_append_own _ (.tmp 80) (.tmp 84) 22 ho W0.heap.size 53 i0 (.agg #[.int .i64 0, .int .i64 0]) 2 16 Tryd.underlying22 hi hz0 hz1 hz2 rfl (by decide) v' k (cellsP (C.take k)) e1 hown (adr2 gc fc cc k) (C.length - (k + 1)) (cc - (k + 1)) (cellsP (C.drop (k + 1))) e2 (by rw [cellsP_len, hld]) (hcd.out W hW) (cellsP_one _) (by unfold maxLen; omega) (by omega) hb.size ?_
                intro v2 w2 hown2 hgrow _
                refine hK v2 w2 ?_ (hb.grown hgrow hb.size (owns_row_ge hown))
                rw [cellsP_app, show k + (C.length - (k + 1)) = (C.take k ++ C.drop (k + 1)).length by rw [List.length_append, hlt, hld]] at hown2
                exact PairsAt.of_owns hown2
              generalize C.take k ++ C.drop (k + 1) = D at *
              go_wp2_with fail
              go_region_held3 (fun V => V.cell? ⟨gr, 0, none⟩ = some (.int .i64 m) ∧ Below wr.heap.size wr V) (first | (exact keep1i (by assumption) hb) | (exact keep1i hi0.out hb) | (exact hi0.out)) (first | (go_at_call 29; refine (KT.out _ (by first | exact ‹_ ∧ _›.2 | exact (Below.refl _ _).drew)).mono ?_; rintro e w5 ⟨v5, rfl, hown5, hb⟩) | (go_at_call 28; refine (KN.out _ _ hv6 (by first | exact ‹_ ∧ _›.2 | exact (Below.refl _ _).drew)).mono ?_; rintro e w7 ⟨po, z, rfl, hC, hb⟩) | (rw [if_pos (by rfl)]; refine KA.out _ _ _ rfl rfl rfl hown5 hb ‹_ ∧ _›.2 ?_; clear hb hown5; intro v6 w6 hv6 hb))
              all_goals
                obtain ⟨_, hB7⟩ := ‹w7.cell? ⟨gr, 0, none⟩ = some (.int .i64 m) ∧ Below wr.heap.size wr w7›
                clear KT KN KA hi0 hcd hs1 hs2 hwr htn hv6 hb cN'
                rcases hC.out with ⟨g1, _, _⟩ | ⟨_, g2, _, _⟩ | ⟨_, _, rfl, go3, gp3, gs3, Pf3, Sf3, rfl, _, ho7, hO7⟩
                · exact absurd hg g1
                · rw [Int.toNat_natCast] at g2; exact absurd g2 hnc
                rw [Int.toNat_natCast] at ho7 hO7
                obtain ⟨p1, p2⟩ := hpc.out _ hB7
                have KB : Hid (∀ W, Below w7.heap.size w7 W → Calls Tryd.prog 9 #[.pointer (some ⟨go3, 0, none⟩), .int .i64 p.1, .int .i64 p.2] W fun e w' => e = .returned (.bool false) ∧ Below W.heap.size W w') := fun W hW => by
                  have := beforeO (ho7.over hW) p.1 p.2 _ rfl (hO7.suc_lt' p.1)
                  rwa [hO7.bef p.1 p.2, hless'] at this
                have B7 := B5.trans (hB7.mono B5.size)
                have hkc : (k : Int) < (C.length : Int) := by omega
                have hi1 : Hid (w7.drew.cell? ⟨gc, fc + k * 2, none⟩ = some (.int .i64 p.1) ∧ w7.drew.cell? ⟨gc, fc + k * 2 + 1, none⟩ = some (.int .i64 p.2) ∧ Below w7.heap.size w7 w7.drew) := ⟨p1, p2, (Below.refl _ _).drew⟩
                clear hC hg hnc hless' ho7 hO7 hpc p1 p2
                go_wp2_with fail
                go_region_held3 (fun V => V.cell? ⟨gc, fc + k * 2, none⟩ = some (.int .i64 p.1) ∧ V.cell? ⟨gc, fc + k * 2 + 1, none⟩ = some (.int .i64 p.2) ∧ Below w7.heap.size w7 V) (first | (exact keep2i (by assumption) hb) | (exact keep2i hi1.out hb) | (exact hi1.out)) (first | (go_at_call 9; refine (KB.out _ (by first | exact ‹_ ∧ _ ∧ _›.2.2 | exact (Below.refl _ _).drew)).mono ?_; rintro e w8 ⟨rfl, hb⟩))
                all_goals
                  obtain ⟨_, _, hB8⟩ := ‹w8.cell? ⟨gc, fc + k * 2, none⟩ = some (.int .i64 p.1) ∧ w8.cell? ⟨gc, fc + k * 2 + 1, none⟩ = some (.int .i64 p.2) ∧ Below w7.heap.size w7 w8›
                  go_wp2
                  go_ret
                  exact ⟨rfl, B7.trans (hB8.mono B7.size)⟩
end Go.Proofs.YteiedppecijhfaaDoor
