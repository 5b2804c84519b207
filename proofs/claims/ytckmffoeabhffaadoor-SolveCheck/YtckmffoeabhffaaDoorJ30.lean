/- SolveCheck, walked. -/
import Derived.Test.YtckmffoeabhffaaDoorJ27
import Derived.Test.YtckmffoeabhffaaDoorJ29
namespace Go.Proofs.YtckmffoeabhffaaDoor.S
open Go.RowKit Go.Shelf
attribute [local irreducible] wpQuiet
theorem below_drewS {n : Nat} {w w' : World} (h : Below n w w') : ∀ k, Below n w (w'.drewN k) := by
  intro k
  induction k with
  | zero => exact h
  | succ k ih => exact ih.drew
/-- What the document asks of a step's user and of who may do it. -/
def okI (P : Pb) (i : Nat) : Bool := (decide (P.fixed.getD i 0 = -1) || isU P (P.fixed.getD i 0)) && outU P.users.toNat (P.who.getD i 0)
theorem okI_all {P : Pb} (hl : P.fixed.length = P.who.length) : (List.range P.who.length).all (okI P) = (P.fixed.all (fun x => decide (x = -1) || isU P x) && P.who.all (outU P.users.toNat)) := by
  rw [Bool.eq_iff_iff]
  simp only [List.all_eq_true, Bool.and_eq_true, List.mem_range]
  constructor
  · intro h
    refine ⟨fun x hx => ?_, fun z hz => ?_⟩
    · obtain ⟨i, hi⟩ := List.getElem?_of_mem hx
      have := h i (by have := (List.getElem?_eq_some_iff.1 hi).1; omega)
      unfold okI at this
      rw [List.getD_eq_getElem?_getD, hi, Option.getD_some, Bool.and_eq_true] at this
      exact this.1
    · obtain ⟨i, hi⟩ := List.getElem?_of_mem hz
      have := h i (List.getElem?_eq_some_iff.1 hi).1
      unfold okI at this
      rw [Bool.and_eq_true, List.getD_eq_getElem?_getD (l := P.who), hi, Option.getD_some] at this
      exact this.2
  · rintro ⟨h1, h2⟩ i hi
    unfold okI
    rw [List.getD_eq_getElem?_getD, List.getElem?_eq_getElem (by omega : i < P.fixed.length), List.getD_eq_getElem?_getD, List.getElem?_eq_getElem hi, Option.getD_some, Option.getD_some, Bool.and_eq_true]
    exact ⟨h1 _ (List.getElem_mem _), h2 _ (List.getElem_mem _)⟩
set_option maxRecDepth 100000 in
set_option maxHeartbeats 4000000 in
theorem rCheckF (P : Pb) (wv fv rv : Value) (w : World) (h : PbV w P wv fv rv) (hk : Pok P) :
    Calls Tryd.prog 10 #[pbV P wv fv rv] w fun e w' => e = .returned (.int .i64 (chkN P : Int)) ∧ Below w.heap.size w w' := by
  have hs := h.shape
  have hB0 : Hid (Below w.heap.size w (w.alloc (.cells #[.int .i64 P.users, wv, fv, rv] 26))) := (Below.refl _ w).alloc (Nat.le_refl _) _
  have hb0 : Hid (PbB (w.alloc (.cells #[.int .i64 P.users, wv, fv, rv] 26)) w.heap.size P wv fv rv) := heap_new w _
  have K3 : Hid (Calls Tryd.prog 29 #[.int .i64 (P.who.length : Int), rv] (w.alloc (.cells #[.int .i64 P.users, wv, fv, rv] 26)) fun e w' => e = .returned (.bool (rgt (P.who.length : Int) P.rules)) ∧ Below (w.alloc (.cells #[.int .i64 P.users, wv, fv, rv] 26)).heap.size (w.alloc (.cells #[.int .i64 P.users, wv, fv, rv] 26)) w') := rRight _ P.rules rv _ (h.rules.below hB0.out (Nat.le_refl _)) hk.r hk.s
  obtain ⟨ow, cw, of, cf, or, cr, rfl, rfl, rfl⟩ := hs
  have hcw : Hid (∀ (i z : Nat), P.who[i]? = some z → ∃ g o, ow = some ⟨g, o, none⟩ ∧ w.cell? ⟨g, o + i, none⟩ = some (.int .u64 (z : Int)) ∧ z < 18446744073709551616) := fun i z hz => by
    obtain ⟨oa, cap, e, _, hc⟩ := h.who
    injection e with e1 e2 e3
    obtain ⟨g, o, rfl, hh⟩ := hc i z hz
    exact ⟨g, o, e1, hh, hk.b z (List.mem_of_getElem? hz)⟩
  have hcf : Hid (∀ (i : Nat) (x : Int), P.fixed[i]? = some x → ∃ g o, of = some ⟨g, o, none⟩ ∧ w.cell? ⟨g, o + i, none⟩ = some (.int .i64 x)) := fun i x hx => by
    obtain ⟨oa, cap, e, _, hc⟩ := h.fixed
    injection e with e1 e2 e3
    obtain ⟨g, o, rfl, hh⟩ := hc i x hx
    exact ⟨g, o, e1, hh⟩
  unfold pbV
  clear h hk
  by_cases hA : 12 < P.who.length
  · rw [chkN_big (.inl hA)]
    have hA' : (12 : Int) < (P.who.length : Int) := by omega
    clear K3 hcw hcf
    go_enter Tryd.func10, Tryd.ntmps10
    go_wp2
    go_ret
    exact ⟨rfl, hB0.out⟩
  have hA' : ¬ (12 : Int) < (P.who.length : Int) := by omega
  have hAd : decide ((12 : Int) < (P.who.length : Int)) = false := decide_eq_false hA'
  by_cases hB : 64 < P.users
  · rw [chkN_big (.inr (.inl hB))]
    clear K3 hcw hcf
    go_enter Tryd.func10, Tryd.ntmps10
    go_wp2
    go_ret
    exact ⟨rfl, hB0.out⟩
  have hBd : decide ((64 : Int) < P.users) = false := decide_eq_false hB
  by_cases hC : 32 < P.rules.length
  · rw [chkN_big (.inr (.inr hC))]
    have hC' : (32 : Int) < (P.rules.length : Int) := by omega
    clear K3 hcw hcf
    go_enter Tryd.func10, Tryd.ntmps10
    go_wp2
    go_ret
    exact ⟨rfl, hB0.out⟩
  have hC' : ¬ (32 : Int) < (P.rules.length : Int) := by omega
  have hCd : decide ((32 : Int) < (P.rules.length : Int)) = false := decide_eq_false hC'
  have hbig : ¬ (12 < P.who.length ∨ 64 < P.users ∨ 32 < P.rules.length) := by rintro (q | q | q) <;> omega
  by_cases hD : P.users < 0
  · rw [chkN_bad hbig (.inl hD)]
    clear K3 hcw hcf
    go_enter Tryd.func10, Tryd.ntmps10
    go_wp2
    go_ret
    exact ⟨rfl, hB0.out⟩
  have hDd : decide (P.users < 0) = false := decide_eq_false hD
  by_cases hE : P.fixed.length = P.who.length
  case neg =>
    rw [chkN_bad hbig (.inr (.inl (by unfold fixB; rw [decide_eq_false hE, Bool.and_false])))]
    have hE' : ((P.fixed.length : Int) != (P.who.length : Int)) = true := by rw [bne_iff_ne]; omega
    clear K3 hcw hcf
    go_enter Tryd.func10, Tryd.ntmps10
    go_wp2
    go_ret
    exact ⟨rfl, hB0.out⟩
  have hE' : ((P.fixed.length : Int) != (P.who.length : Int)) = false := by rw [hE]; simp
  have hrg : Hid (rgt (P.who.length : Int) P.rules = rulB P) := by
    show _ = _
    unfold rgt rulB
    rw [decide_eq_true (by omega), decide_eq_true (by omega)]; rfl
  rw [hrg.out] at K3
  have hEl := hide' hE
  cases hR : rulB P with
  | false =>
    rw [chkN_bad hbig (.inr (.inr (.inr hR)))]
    rw [hR] at K3
    clear hcw hcf hE
    go_enter Tryd.func10, Tryd.ntmps10
    go_wp2_with fail
    refine K3.out.mono ?_
    rintro e w1 ⟨rfl, hb1⟩
    have hB1 : Hid (Below w.heap.size w w1) := hB0.out.trans (hb1.mono hB0.out.size)
    clear hb1 K3
    go_wp2
    go_ret
    exact ⟨rfl, hB1.out⟩
  | true =>
    rw [hR] at K3
    have hfin : Hid (chkN P = if (List.range P.who.length).all (okI P) then 0 else 1) := by
      show _ = _
      rw [okI_all hE]
      cases h1 : P.fixed.all (fun x => decide (x = -1) || isU P x) && P.who.all (outU P.users.toNat) with
      | true =>
        rw [Bool.and_eq_true] at h1
        rw [chkN_ok hbig (by
          rintro (q | q | q | q)
          · omega
          · unfold fixB at q; rw [h1.1, decide_eq_true hE] at q; cases q
          · unfold whoB at q; rw [h1.2] at q; cases q
          · rw [hR] at q; cases q)]; rfl
      | false =>
        rw [Bool.and_eq_false_iff] at h1
        rcases h1 with h1 | h1
        · rw [chkN_bad hbig (.inr (.inl (by unfold fixB; rw [h1]; rfl)))]; rfl
        · rw [chkN_bad hbig (.inr (.inr (.inl h1)))]; rfl
    obtain ⟨U, hUe⟩ : ∃ U : Nat, Hid (P.users = (U : Int)) := ⟨P.users.toNat, by show _ = _; omega⟩
    have hUn : Hid (P.users.toNat = U) := by show _ = _; rw [hUe.out]; simp
    clear hE
    go_enter Tryd.func10, Tryd.ntmps10
    go_wp2_with fail
    refine K3.out.mono ?_
    rintro e w1 ⟨rfl, hb1⟩
    have hB1 : Hid (Below w.heap.size w w1) := hB0.out.trans (hb1.mono hB0.out.size)
    have hp1 := hide' (hb0.out.below hb1)
    clear hb1 K3 hB0 hb0
    go_wp2
    go_loopw [4] (fun p wr => ∃ (j : Nat), j ≤ P.who.length ∧ p = .int .i64 (j : Int) ∧ Hid ((List.range j).all (okI P) = true) ∧ Hid (Below w.heap.size w wr) ∧ Hid (PbB wr w.heap.size P (.slice ow P.who.length cw) (.slice of P.fixed.length cf) (.slice or P.rules.length cr))) (fun p _ => ((P.who.length : Int) - intOf p).toNat)
    case atStart => exact ⟨0, Nat.zero_le _, rfl, rfl, hB1, hp1⟩
    case round =>
      clear hB1 hp1
      obtain ⟨j, hj, rfl, hA1, hB2, hp2⟩ := hrel
      by_cases hlt : j < P.who.length
      · have hlt' : (j : Int) < (P.who.length : Int) := by omega
        have hlf : (j : Int) < (P.fixed.length : Int) := by have := hEl.out; omega
        have hj0 : ¬ (j : Int) < 0 := by omega
        obtain ⟨z, hz⟩ : ∃ z, P.who[j]? = some z := ⟨_, List.getElem?_eq_getElem hlt⟩
        obtain ⟨x, hx⟩ : ∃ x, P.fixed[j]? = some x := ⟨_, List.getElem?_eq_getElem (by omega)⟩
        obtain ⟨g1, o1, rfl, d1, hz64⟩ := hcw.out j z hz
        obtain ⟨g2, o2, rfl, d2⟩ := hcf.out j x hx
        have c1 := M.cell_over d1 hB2.out
        have c2 := M.cell_over d2 hB2.out
        have hok : Hid (okI P j = ((decide (x = -1) || isU P x) && outU U z)) := by
          show _ = _
          unfold okI
          rw [List.getD_eq_getElem?_getD, hx, List.getD_eq_getElem?_getD, hz, Option.getD_some, Option.getD_some, hUn.out]
        have hnx : Hid ((List.range (j + 1)).all (okI P) = ((decide (x = -1) || isU P x) && outU U z)) := by
          show _ = _
          rw [List.range_succ, List.all_append, hA1.out, Bool.true_and, List.all_cons, List.all_nil, Bool.and_true, hok.out]
        have hno : Hid (((decide (x = -1) || isU P x) && outU U z) = false → (List.range P.who.length).all (okI P) = false) := fun q => by
          rw [List.all_eq_false]
          exact ⟨j, List.mem_range.2 hlt, by rw [hok.out, q]; decide⟩
        have q0 := hp2.out.c0
        have q1 := hp2.out.c1
        have q2 := hp2.out.c2
        rw [hUe.out] at q0
        have hUx : Hid (isU P x = (decide (0 ≤ x) && decide (x < (U : Int)))) := by show _ = _; unfold isU; rw [hUe.out]
        have hsh := shr_zero z U hz64
        have hU0 : ¬ (U : Int) < 0 := by omega
        clear hz hx d1 d2 hcw hcf hA1 hok hrg
        by_cases hx1 : x < -1
        · have hF := hide' (hno.out (by rw [hUx.out, decide_eq_false (by omega : ¬ x = -1), decide_eq_false (by omega : ¬ 0 ≤ x)]; rfl))
          clear hno hnx hUx hsh c1
          go_wp2
          go_quiet (fail)
          go_wp2
          go_ret
          exact ⟨by rw [hfin.out, hF.out]; rfl, below_drewS hB2.out _⟩
        · have hx1d : decide (x < -1) = false := decide_eq_false hx1
          by_cases hx2 : (U : Int) ≤ x
          · have hF := hide' (hno.out (by rw [hUx.out, decide_eq_false (by omega : ¬ x = -1), decide_eq_false (by omega : ¬ x < (U : Int))]; simp))
            clear hno hnx hUx hsh c1
            go_wp2
            go_quiet (fail)
            go_wp2
            go_ret
            exact ⟨by rw [hfin.out, hF.out]; rfl, below_drewS hB2.out _⟩
          · have hx2d : decide ((U : Int) ≤ x) = false := decide_eq_false hx2
            have hxo : Hid ((decide (x = -1) || isU P x) = true) := by
              show _ = _
              rw [hUx.out, Bool.or_eq_true, Bool.and_eq_true, decide_eq_true_eq, decide_eq_true_eq, decide_eq_true_eq]
              omega
            by_cases hU6 : U < 64
            · have hU6i : (U : Int) < 64 := by omega
              by_cases hzz : z / 2 ^ U = 0
              · have hF : Hid ((List.range (j + 1)).all (okI P) = true) := by
                  show _ = _
                  rw [hnx.out, hxo.out, Bool.true_and]; exact decide_eq_true hzz
                rw [Nat.min_eq_left (by omega), hzz] at hsh
                clear hno hnx hUx hxo hzz hx1 hx2 hU6
                go_wp2
                go_quiet (fail)
                go_wp2
                exact ⟨⟨j + 1, by omega, by go_num, hF, hide' (below_drewS hB2.out _), hide' hp2.out⟩, by simp [intOf]; omega⟩
              · have hF := hide' (hno.out (by rw [hxo.out, Bool.true_and]; exact decide_eq_false hzz))
                rw [Nat.min_eq_left (by omega)] at hsh
                obtain ⟨sh, hshe, hzi⟩ : ∃ sh : Int, (z : Int) / 2 ^ U = sh ∧ (sh != 0) = true := ⟨_, hsh, by rw [bne_iff_ne]; omega⟩
                clear hsh
                clear hno hnx hUx hxo hzz hx1 hx2 hU6
                go_wp2
                go_quiet (fail)
                go_wp2
                go_ret
                exact ⟨by rw [hfin.out, hF.out]; rfl, below_drewS hB2.out _⟩
            · have hU6i : ¬ (U : Int) < 64 := by omega
              have hU6d : decide ((U : Int) < 64) = false := decide_eq_false hU6i
              have hF : Hid ((List.range (j + 1)).all (okI P) = true) := by
                show _ = _
                rw [hnx.out, hxo.out, Bool.true_and]
                exact decide_eq_true (Nat.div_eq_of_lt (Nat.lt_of_lt_of_le hz64 (show 2 ^ 64 ≤ 2 ^ U from Nat.pow_le_pow_right (by decide) (by omega))))
              clear hno hnx hUx hxo hx1 hx2 hU6 hsh
              go_wp2
              go_quiet (fail)
              go_wp2
              exact ⟨⟨j + 1, by omega, by go_num, hF, hide' (below_drewS hB2.out _), hide' hp2.out⟩, by simp [intOf]; omega⟩
      · obtain rfl : j = P.who.length := by omega
        clear hcw hcf
        go_wp2
        go_ret
        exact ⟨by rw [hfin.out, hA1.out]; rfl, hB2.out⟩
end Go.Proofs.YtckmffoeabhffaaDoor.S
namespace Go.Proofs.YtckmffoeabhffaaDoor.S
open Go.RowKit Go.Shelf
set_option maxRecDepth 100000 in
set_option maxHeartbeats 4000000 in
theorem rHoldsF (P : Pb) (wv fv rv : Value) (L : List Int) (lv : Value) (w : World) (h : PbV w P wv fv rv) (hL : RowI w lv L) (hk : Pok P) :
    Calls Tryd.prog 13 #[pbV P wv fv rv, lv] w fun e w' => e = .returned (.bool (holP P L)) ∧ Below w.heap.size w w' := by
  have hs := h.shape
  have hB0 : Hid (Below w.heap.size w (w.alloc (.cells #[.int .i64 P.users, wv, fv, rv] 26))) := (Below.refl _ w).alloc (Nat.le_refl _) _
  have hb0 : Hid (PbB (w.alloc (.cells #[.int .i64 P.users, wv, fv, rv] 26)) w.heap.size P wv fv rv) := heap_new w _
  have h' := hide' h
  have K1 : Hid (∀ V, Below w.heap.size w V → Calls Tryd.prog 10 #[pbV P wv fv rv] V fun e w' => e = .returned (.int .i64 (chkN P : Int)) ∧ Below V.heap.size V w') := fun V hV => rCheckF P wv fv rv V (h.below hV) hk
  have K4 : Hid (∀ V, Below w.heap.size w V → Calls Tryd.prog 34 #[rv, lv] V fun e w' => ∃ oa cap, e = .returned (.slice oa (broken P.rules L).length cap) ∧ Below V.heap.size V w') := fun V hV => by
    refine (rBroken P.rules rv lv L V (h.rules.below hV (Nat.le_refl _)) (hL.below hV (Nat.le_refl _)) hk.r hk.s).mono ?_
    rintro e w' ⟨v', rfl, ho, hb⟩
    obtain ⟨oa, cap, rfl⟩ := own_shp ho
    exact ⟨oa, cap, rfl, hb⟩
  obtain ⟨ow, cw, of, cf, or, cr, rfl, rfl, rfl⟩ := hs
  obtain ⟨ol, cl, rfl, _, hcl⟩ := hL
  have hcl' := hide' hcl
  clear hcl h
  by_cases hC : chkN P = 0
  case neg =>
    have hfin : holP P L = false := by unfold holP; rw [decide_eq_false hC]; rfl
    rw [hfin]
    have hne : (((chkN P : Nat) : Int) != 0) = true := by rw [bne_iff_ne]; omega
    generalize chkN P = c at *
    unfold pbV at K1 ⊢
    clear K4 hC hfin hcl' h' hk
    go_enter Tryd.func13, Tryd.ntmps13
    go_wp2_with fail
    refine (K1.out _ hB0.out).mono ?_
    rintro e w1 ⟨rfl, hb1⟩
    have hB1 : Hid (Below w.heap.size w w1) := hB0.out.trans (hb1.mono hB0.out.size)
    clear hb1 K1
    go_wp2
    go_ret
    exact ⟨rfl, hB1.out⟩
  have K3 : Hid (∀ V, Below w.heap.size w V → ∀ (t : Nat) (x : Int), t < P.who.length → Calls Tryd.prog 33 #[pbV P (.slice ow P.who.length cw) (.slice of P.fixed.length cf) (.slice or P.rules.length cr), .int .i64 (t : Int), .int .i64 x] V fun e w' => e = .returned (.bool (okU P t x)) ∧ Below V.heap.size V w') := fun V hV t x ht => rMayF P _ _ _ t x V (h'.out.below hV) hC ht hk.b
  have hhol : Hid (L.length = P.who.length → holP P L = (okA P L L.length && decide ((broken P.rules L).length = 0))) := fun hl => by unfold holP; rw [decide_eq_true hC, decide_eq_true hl]; rfl
  have hhn : Hid (L.length ≠ P.who.length → holP P L = false) := fun hl => by unfold holP; rw [decide_eq_true hC, decide_eq_false hl]; rfl
  have g12 := (chkN_zero hC).1
  rw [hC] at K1
  clear hk h' hC
  unfold pbV at K1 K3 ⊢
  by_cases hl : L.length = P.who.length
  case neg =>
    rw [hhn.out hl]
    have hl' : ((L.length : Int) != (P.who.length : Int)) = true := by rw [bne_iff_ne]; omega
    clear K3 K4 hhol hhn hcl' hl
    go_enter Tryd.func13, Tryd.ntmps13
    go_wp2_with fail
    refine (K1.out _ hB0.out).mono ?_
    rintro e w1 ⟨rfl, hb1⟩
    have hB1 : Hid (Below w.heap.size w w1) := hB0.out.trans (hb1.mono hB0.out.size)
    have hp := hide' (hb0.out.below hb1)
    have q1 := hp.out.c1
    clear hb1 K1
    go_wp2
    go_ret
    exact ⟨rfl, hB1.out⟩
  have hno : Hid (∀ j x, L[j]? = some x → okU P j x = false → okA P L P.who.length = false) := fun j x h1 h2 => hl ▸ okA_no P h1 h2
  have hgl : Hid (∀ j, j < P.who.length → ∃ x, L[j]? = some x) := fun j hj => ⟨_, List.getElem?_eq_getElem (hl ▸ hj)⟩
  rw [hhol.out hl]
  rw [hl] at K4 ⊢
  clear hhol hhn hl
  go_enter Tryd.func13, Tryd.ntmps13
  go_wp2_with fail
  refine (K1.out _ hB0.out).mono ?_
  rintro e w1 ⟨rfl, hb1⟩
  have hB1 : Hid (Below w.heap.size w w1) := hB0.out.trans (hb1.mono hB0.out.size)
  have hp := hide' (hb0.out.below hb1)
  have q1 := hp.out.c1
  clear hb1 K1 hB0 hb0
  go_wp2
  go_loopw [5] (fun p wr => ∃ j : Nat, j ≤ P.who.length ∧ p = .int .i64 (j : Int) ∧ Hid (okA P L j = true) ∧ Hid (Below w.heap.size w wr) ∧ Hid (PbB wr w.heap.size P (.slice ow P.who.length cw) (.slice of P.fixed.length cf) (.slice or P.rules.length cr))) (fun p _ => ((P.who.length : Int) - intOf p).toNat)
  case atStart => exact ⟨0, Nat.zero_le _, rfl, rfl, hB1, hp⟩
  case round =>
    clear hB1 hp q1
    obtain ⟨j, hj, rfl, hE, hB, hb⟩ := hrel
    by_cases hlt : j < P.who.length
    · have hlt' : (j : Int) < (P.who.length : Int) := by omega
      have hj0 : ¬ (j : Int) < 0 := by omega
      obtain ⟨x, hx⟩ := hgl.out j hlt
      obtain ⟨g, o, rfl, d1⟩ := hcl'.out j x hx
      have d2 := hide' (M.cell_over d1 hB.out)
      have hsn := hide' (okA_succ P hx)
      have hn := hide' (hno.out j x hx)
      have hBd : Hid (Below w.heap.size w wr.drew) := hB.out.drew
      have KM := hide' (K3.out wr.drew hBd.out j x hlt)
      have hS : Hid (∀ V, Below wr.heap.size wr V → (V.cell? ⟨w.heap.size, 0, none⟩ = some (.int .i64 P.users) ∧ V.cell? ⟨w.heap.size, 1, none⟩ = some (.slice ow P.who.length cw) ∧ V.cell? ⟨w.heap.size, 2, none⟩ = some (.slice of P.fixed.length cf) ∧ V.cell? ⟨w.heap.size, 3, none⟩ = some (.slice or P.rules.length cr)) ∧ V.cell? ⟨g, o + j, none⟩ = some (.int .i64 x)) := fun V hV => ⟨(hb.out.below hV).all, M.cell_over d2.out hV⟩
      have hS0 := hide' (hS.out _ (Below.refl _ wr).drew)
      clear d1 hx hno hgl K3 K4 hcl'
      cases hu : okU P j x with
      | false =>
       as_aux_lemma =>
        have hE2 := hide' (hn.out hu)
        rw [hu] at KM
        clear hn hsn hE hu
        go_wp2
        go_region_held3 (fun V => (V.cell? ⟨w.heap.size, 0, none⟩ = some (.int .i64 P.users) ∧ V.cell? ⟨w.heap.size, 1, none⟩ = some (.slice ow P.who.length cw) ∧ V.cell? ⟨w.heap.size, 2, none⟩ = some (.slice of P.fixed.length cf) ∧ V.cell? ⟨w.heap.size, 3, none⟩ = some (.slice or P.rules.length cr)) ∧ V.cell? ⟨g, o + j, none⟩ = some (.int .i64 x)) (first | (exact hS0.out) | (exact hS.out _ hb5.out)) (first | (go_at_call 33; refine KM.out.mono ?_; rintro e w5 ⟨rfl, hb5'⟩; have hb5 : Hid (Below wr.heap.size wr w5) := (Below.refl _ wr).drew.trans hb5'))
        all_goals
          have hB5 : Hid (Below w.heap.size w w5) := hB.out.trans (hb5.out.mono hB.out.size)
          clear KM hS hS0 d2 hb5 hb5' hBd
          go_wp2
          go_ret
          exact ⟨ret_bool (by rw [hE2.out]; rfl), hB5.out⟩
      | true =>
       as_aux_lemma =>
        have hE2 : Hid (okA P L (j + 1) = true) := by show _ = _; rw [hsn.out, hE.out, hu]; rfl
        rw [hu] at KM
        clear hn hsn hE hu
        go_wp2
        go_region_held3 (fun V => (V.cell? ⟨w.heap.size, 0, none⟩ = some (.int .i64 P.users) ∧ V.cell? ⟨w.heap.size, 1, none⟩ = some (.slice ow P.who.length cw) ∧ V.cell? ⟨w.heap.size, 2, none⟩ = some (.slice of P.fixed.length cf) ∧ V.cell? ⟨w.heap.size, 3, none⟩ = some (.slice or P.rules.length cr)) ∧ V.cell? ⟨g, o + j, none⟩ = some (.int .i64 x)) (first | (exact hS0.out) | (exact hS.out _ hb5.out)) (first | (go_at_call 33; refine KM.out.mono ?_; rintro e w5 ⟨rfl, hb5'⟩; have hb5 : Hid (Below wr.heap.size wr w5) := (Below.refl _ wr).drew.trans hb5'))
        all_goals
          have hB5 : Hid (Below w.heap.size w w5) := hB.out.trans (hb5.out.mono hB.out.size)
          have hp5 := hide' (hb.out.below hb5.out)
          clear KM hS hS0 d2 hb5 hb5' hBd hb hB
          go_wp2
          exact ⟨⟨j + 1, by omega, by go_num, hE2, hB5, hp5⟩, by simp [intOf]; omega⟩
    · obtain rfl : j = P.who.length := by omega
      have q3 := hb.out.c3
      clear hcl' K3 hno hgl
      generalize hnb : (broken P.rules L).length = nb at K4
      have hnb' := hide' hnb
      clear hnb
      go_wp2_with fail
      refine (K4.out _ hB.out).mono ?_
      rintro e w5 ⟨oa, cap, rfl, hb5⟩
      have hB5 : Hid (Below w.heap.size w w5) := hB.out.trans (hb5.mono hB.out.size)
      clear hb5 hB K4 q3
      go_wp2
      go_ret
      exact ⟨ret_bool (by rw [hE.out, hnb'.out, Bool.true_and]; exact nat_beq0 nb), hB5.out⟩
end Go.Proofs.YtckmffoeabhffaaDoor.S
namespace Go.Proofs.YtckmffoeabhffaaDoor.S
open Go.RowKit Go.Shelf
/-- What stands between the calls: the problem that was cut, its box, and the plan. -/
structure CkS (w : World) (Q : Pb) (qw qf qr lv : Value) (L : List Int) (g : Nat) (V : World) : Prop where
  b : PbB V g Q qw qf qr
  q : PbV V Q qw qf qr
  l : RowI V lv L
  be : Below w.heap.size w V
  tab : M.Tab V
theorem CkS.over {w : World} {Q : Pb} {qw qf qr lv : Value} {L : List Int} {g : Nat} {V V' : World} (h : CkS w Q qw qf qr lv L g V) (hb : Below V.heap.size V V') : CkS w Q qw qf qr lv L g V' :=
  ⟨h.b.below hb, h.q.below hb, h.l.below hb (Nat.le_refl _), h.be.trans (hb.mono h.be.size), h.tab.over hb⟩
set_option maxRecDepth 100000 in
set_option maxHeartbeats 8000000 in
theorem solveCheck_walk (P : Pb) (wv fv rv : Value) (L : List Int) (lv : Value) (w : World) (h : PbV w P wv fv rv) (hL : RowI w lv L) (hb : ∀ z ∈ P.who, z < 18446744073709551616) (ht : M.Tab w) :
    Calls Tryd.prog 3 #[pbV P wv fv rv, lv] w fun e w' => e = .returned (.bool true) ∧ Below w.heap.size w w' := by
  have hB0 : Hid (Below w.heap.size w (w.alloc (.cells #[.int .i64 P.users, wv, fv, rv] 26))) := (Below.refl _ w).alloc (Nat.le_refl _) _
  have K0 := hide' (cutA P wv fv rv _ (h.below hB0.out))
  have hk := hide' (cutP_ok hb)
  have hL' := hide' hL
  have ht' := hide' ht
  have hst : Hid (∀ V, Below w.heap.size w V → ∀ a b c, PbV V (cutP P) a b c → CkS w (cutP P) a b c lv L V.heap.size (V.alloc (.cells #[.int .i64 (cutP P).users, a, b, c] 26)).drew) := fun V hV a b c hq => by
    have hb1 : Below V.heap.size V (V.alloc (.cells #[.int .i64 (cutP P).users, a, b, c] 26)).drew := ((Below.refl _ V).alloc (Nat.le_refl _) _).drew
    exact ⟨heap_new V _, hq.below hb1, hL'.out.below (hV.trans (hb1.mono hV.size)) (Nat.le_refl _), hV.trans (hb1.mono hV.size), ht'.out.over (hV.trans (hb1.mono hV.size))⟩
  have hQb : Hid (∀ V (a b c : Value), PbV V (cutP P) a b c → Calls Tryd.prog 8 #[pbV (cutP P) a b c] V fun e w' => ∃ va vb vc, e = .returned (pbV (cutP P) va vb vc) ∧ Hid (PbV w' (cutP P) va vb vc) ∧ Hid (Below V.heap.size V w')) := fun V a b c hq => cutB P a b c V hq
  clear h hL ht hb
  unfold pbV at K0 hQb ⊢
  generalize cutP P = Q at *
  go_enter Tryd.func3, Tryd.ntmps3
  go_wp2_with fail
  refine K0.out.mono ?_
  rintro e w1 ⟨qw, qf, qr, rfl, hq1, hb1⟩
  have hB1 : Hid (Below w.heap.size w w1) := hB0.out.trans (hb1.out.mono hB0.out.size)
  have hS := hide' (hst.out w1 hB1.out qw qf qr hq1.out)
  obtain ⟨ow, cw, of, cf, or, cr, rfl, rfl, rfl⟩ := hq1.out.shape
  clear hst hb1 hq1 hB0 K0
  go_wp2_with fail
  generalize w1.alloc (.cells #[.int .i64 Q.users, .slice ow Q.who.length cw, .slice of Q.fixed.length cf, .slice or Q.rules.length cr] 26) = w2 at hS ⊢
  generalize w1.heap.size = g at *
  have K1 : Hid (∀ V, CkS w Q (.slice ow Q.who.length cw) (.slice of Q.fixed.length cf) (.slice or Q.rules.length cr) lv L g V → Calls Tryd.prog 8 #[.agg #[.int .i64 Q.users, .slice ow Q.who.length cw, .slice of Q.fixed.length cf, .slice or Q.rules.length cr]] V fun e w' => ∃ va vb vc, e = .returned (.agg #[.int .i64 Q.users, va, vb, vc]) ∧ Hid (PbV w' Q va vb vc) ∧ Hid (Below V.heap.size V w')) := fun V hV => hQb.out V _ _ _ hV.q
  have K2 : Hid (∀ V va vb vc, PbV V Q va vb vc → Calls Tryd.prog 9 #[.agg #[.int .i64 Q.users, va, vb, vc]] V fun e w' => e = .returned (.int .i64 (chkN Q : Int)) ∧ Below V.heap.size V w') := fun V va vb vc hV => checkPF Q va vb vc V hV hk.out.w hk.out.f hk.out.r hk.out.s hk.out.b
  have K3 : Hid (∀ V, CkS w Q (.slice ow Q.who.length cw) (.slice of Q.fixed.length cf) (.slice or Q.rules.length cr) lv L g V → Calls Tryd.prog 10 #[.agg #[.int .i64 Q.users, .slice ow Q.who.length cw, .slice of Q.fixed.length cf, .slice or Q.rules.length cr]] V fun e w' => e = .returned (.int .i64 (chkN Q : Int)) ∧ Below V.heap.size V w') := fun V hV => rCheckF Q _ _ _ V hV.q hk.out
  have K4 : Hid (∀ V, CkS w Q (.slice ow Q.who.length cw) (.slice of Q.fixed.length cf) (.slice or Q.rules.length cr) lv L g V → Calls Tryd.prog 12 #[lv] V fun e w' => ∃ v', e = .returned v' ∧ RowI w' v' (L.take 30) ∧ Below V.heap.size V w') := fun V hV => rowF L lv V hV.l
  have K5 : Hid (∀ V va vb vc v', PbV V Q va vb vc → RowI V v' (L.take 30) → Calls Tryd.prog 11 #[.agg #[.int .i64 Q.users, va, vb, vc], v'] V fun e w' => e = .returned (.bool (holP Q (L.take 30))) ∧ Below V.heap.size V w') := fun V va vb vc v' hV hr => holdsPF Q va vb vc (L.take 30) v' V hV hr (by rw [List.length_take]; omega) hk.out.w hk.out.f hk.out.r hk.out.s hk.out.b
  have K6 : Hid (∀ V v', CkS w Q (.slice ow Q.who.length cw) (.slice of Q.fixed.length cf) (.slice or Q.rules.length cr) lv L g V → RowI V v' (L.take 30) → Calls Tryd.prog 13 #[.agg #[.int .i64 Q.users, .slice ow Q.who.length cw, .slice of Q.fixed.length cf, .slice or Q.rules.length cr], v'] V fun e w' => e = .returned (.bool (holP Q (L.take 30))) ∧ Below V.heap.size V w') := fun V v' hV hr => rHoldsF Q _ _ _ (L.take 30) v' V hV.q hr hk.out
  have K7 : Hid (∀ V, CkS w Q (.slice ow Q.who.length cw) (.slice of Q.fixed.length cf) (.slice or Q.rules.length cr) lv L g V → Calls Tryd.prog 14 #[] V fun e w' => e = .returned (.bool true) ∧ Below V.heap.size V w') := fun V hV => wakesF V hV.tab
  clear hk hQb hL' ht' hB1
  generalize chkN Q = c at *
  generalize holP Q (L.take 30) = hh at *
  have hcc : ((c : Int) == (c : Int)) = true := by simp
  have hhh : (hh == hh) = true := by simp
  go_wp2
  go_region_held3 (fun V => V.cell? ⟨g, 0, none⟩ = some (.int .i64 Q.users) ∧ V.cell? ⟨g, 1, none⟩ = some (.slice ow Q.who.length cw) ∧ V.cell? ⟨g, 2, none⟩ = some (.slice of Q.fixed.length cf) ∧ V.cell? ⟨g, 3, none⟩ = some (.slice or Q.rules.length cr)) (first | (exact hS11.out.b.all) | (exact hS10.out.b.all) | (exact hS9.out.b.all) | (exact hS8.out.b.all) | (exact hS7.out.b.all) | (exact hS6.out.b.all) | (exact hS5.out.b.all) | (exact hS4.out.b.all) | (exact hS3.out.b.all) | (exact hS.out.b.all)) (first | (go_at_call 8; refine (K1.out _ hS5.out).mono ?_; rintro e w6 ⟨ua, ub, uc, rfl, hq6, hb6⟩; have hS6 := hide' (hS5.out.over hb6.out)) | (go_at_call 8; refine (K1.out _ hS.out).mono ?_; rintro e w3 ⟨va, vb, vc, rfl, hq3, hb3⟩; have hS3 := hide' (hS.out.over hb3.out)) | (go_at_call 9; refine (K2.out _ _ _ _ hq3.out).mono ?_; rintro e w4 ⟨rfl, hb4⟩; have hS4 := hide' (hS3.out.over hb4)) | (go_at_call 10; refine (K3.out _ hS4.out).mono ?_; rintro e w5 ⟨rfl, hb5⟩; have hS5 := hide' (hS4.out.over hb5)) | (go_at_call 12; refine (K4.out _ hS8.out).mono ?_; rintro e w9 ⟨v9, rfl, hr9, hb9⟩; have hS9 := hide' (hS8.out.over hb9); have hr9' := hide' hr9) | (go_at_call 12; refine (K4.out _ hS6.out).mono ?_; rintro e w7 ⟨v7, rfl, hr7, hb7⟩; have hS7 := hide' (hS6.out.over hb7); have hr7' := hide' hr7; have hq7 := hide' (hq6.out.below hb7)) | (go_at_call 11; refine (K5.out _ _ _ _ _ hq7.out hr7'.out).mono ?_; rintro e w8 ⟨rfl, hb8⟩; have hS8 := hide' (hS7.out.over hb8)) | (go_at_call 13; refine (K6.out _ _ hS9.out hr9'.out).mono ?_; rintro e w10 ⟨rfl, hb10⟩; have hS10 := hide' (hS9.out.over hb10)) | (go_at_call 14; refine (K7.out _ hS10.out).mono ?_; rintro e w11 ⟨rfl, hb11⟩; have hS11 := hide' (hS10.out.over hb11)))
  all_goals
    clear K1 K2 K3 K4 K5 K6 K7
    go_wp2
    go_ret
    exact ⟨rfl, hS11.out.be⟩
end Go.Proofs.YtckmffoeabhffaaDoor.S
