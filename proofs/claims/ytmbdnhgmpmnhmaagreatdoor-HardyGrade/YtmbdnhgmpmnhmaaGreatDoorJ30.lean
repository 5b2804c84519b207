/- The document's Check and Holds of a problem. -/
import Derived.Test.YtmbdnhgmpmnhmaaGreatDoorJ26
import Derived.Test.YtmbdnhgmpmnhmaaGreatDoorJ29
import Derived.Deep.QuietTactic
import Derived.BigQuiet
namespace Go.Proofs.YtmbdnhgmpmnhmaaGreatDoor.S
open Go.RowKit Go.Shelf
attribute [local irreducible] wpQuiet
theorem below_drewS {n : Nat} {w w' : World} (h : Below n w w') : ∀ k, Below n w (w'.drewN k) := by
  intro k
  induction k with
  | zero => exact h
  | succ k ih => exact ih.drew
/-- What the document asks of a step's user and of who may do it. -/
def okI (P : Pb) (i : Nat) : Bool := (decide (P.fixed.getD i 0 = -1) || isU P (P.fixed.getD i 0)) && outU P.users.toNat (P.who.getD i 0)
theorem okI_all {P : Pb} (hl : P.fixed.length = P.who.length) : (List.range P.who.length).all (okI P) = (P.fixed.all (fun x => decide (x = -1) || isU P x) && P.who.all (outU P.users.toNat)) := by
  rw [Bool.eq_iff_iff]
  simp only [List.all_eq_true, Bool.and_eq_true, List.mem_range]
  constructor
  · intro h
    refine ⟨fun x hx => ?_, fun z hz => ?_⟩
    · obtain ⟨i, hi⟩ := List.getElem?_of_mem hx
      have := h i (by have := (List.getElem?_eq_some_iff.1 hi).1; omega)
      unfold okI at this
      rw [List.getD_eq_getElem?_getD, hi, Option.getD_some, Bool.and_eq_true] at this
      exact this.1
    · obtain ⟨i, hi⟩ := List.getElem?_of_mem hz
      have := h i (List.getElem?_eq_some_iff.1 hi).1
      unfold okI at this
      rw [Bool.and_eq_true, List.getD_eq_getElem?_getD (l := P.who), hi, Option.getD_some] at this
      exact this.2
  · rintro ⟨h1, h2⟩ i hi
    unfold okI
    rw [List.getD_eq_getElem?_getD, List.getElem?_eq_getElem (by omega : i < P.fixed.length), List.getD_eq_getElem?_getD, List.getElem?_eq_getElem hi, Option.getD_some, Option.getD_some, Bool.and_eq_true]
    exact ⟨h1 _ (List.getElem_mem _), h2 _ (List.getElem_mem _)⟩
set_option maxRecDepth 100000 in
set_option maxHeartbeats 4000000 in
theorem rCheckF (P : Pb) (wv fv rv : Value) (w : World) (h : PbV w P wv fv rv) (hk : Pok P) :
    Calls Tryz.prog 22 #[pbV P wv fv rv] w fun e w' => e = .returned (.int .i64 (chkN P : Int)) ∧ Below w.heap.size w w' := by
  have hs := h.shape
  have hB0 : Hid (Below w.heap.size w (w.alloc (.cells #[.int .i64 P.users, wv, fv, rv] 26))) := (Below.refl _ w).alloc (Nat.le_refl _) _
  have hb0 : Hid (PbB (w.alloc (.cells #[.int .i64 P.users, wv, fv, rv] 26)) w.heap.size P wv fv rv) := heap_new w _
  have K3 : Hid (Calls Tryz.prog 41 #[.int .i64 (P.who.length : Int), rv] (w.alloc (.cells #[.int .i64 P.users, wv, fv, rv] 26)) fun e w' => e = .returned (.bool (rgt (P.who.length : Int) P.rules)) ∧ Below (w.alloc (.cells #[.int .i64 P.users, wv, fv, rv] 26)).heap.size (w.alloc (.cells #[.int .i64 P.users, wv, fv, rv] 26)) w') := rRight _ P.rules rv _ (h.rules.below hB0.out (Nat.le_refl _)) hk.r hk.s
  obtain ⟨ow, cw, of, cf, or, cr, rfl, rfl, rfl⟩ := hs
  have hcw : Hid (∀ (i z : Nat), P.who[i]? = some z → ∃ g o, ow = some ⟨g, o, none⟩ ∧ w.cell? ⟨g, o + i, none⟩ = some (.int .u64 (z : Int)) ∧ z < 18446744073709551616) := fun i z hz => by
    obtain ⟨oa, cap, e, _, hc⟩ := h.who
    injection e with e1 e2 e3
    obtain ⟨g, o, rfl, hh⟩ := hc i z hz
    exact ⟨g, o, e1, hh, hk.b z (List.mem_of_getElem? hz)⟩
  have hcf : Hid (∀ (i : Nat) (x : Int), P.fixed[i]? = some x → ∃ g o, of = some ⟨g, o, none⟩ ∧ w.cell? ⟨g, o + i, none⟩ = some (.int .i64 x)) := fun i x hx => by
    obtain ⟨oa, cap, e, _, hc⟩ := h.fixed
    injection e with e1 e2 e3
    obtain ⟨g, o, rfl, hh⟩ := hc i x hx
    exact ⟨g, o, e1, hh⟩
  unfold pbV
  clear h hk
  by_cases hA : 12 < P.who.length
  · rw [chkN_big (.inl hA)]
    have hA' : (12 : Int) < (P.who.length : Int) := by omega
    clear K3 hcw hcf
    go_enter Tryz.func22, Tryz.ntmps22
    go_wp2
    go_ret
    exact ⟨rfl, hB0.out⟩
  have hA' : ¬ (12 : Int) < (P.who.length : Int) := by omega
  have hAd : decide ((12 : Int) < (P.who.length : Int)) = false := decide_eq_false hA'
  by_cases hB : 64 < P.users
  · rw [chkN_big (.inr (.inl hB))]
    clear K3 hcw hcf
    go_enter Tryz.func22, Tryz.ntmps22
    go_wp2
    go_ret
    exact ⟨rfl, hB0.out⟩
  have hBd : decide ((64 : Int) < P.users) = false := decide_eq_false hB
  by_cases hC : 32 < P.rules.length
  · rw [chkN_big (.inr (.inr hC))]
    have hC' : (32 : Int) < (P.rules.length : Int) := by omega
    clear K3 hcw hcf
    go_enter Tryz.func22, Tryz.ntmps22
    go_wp2
    go_ret
    exact ⟨rfl, hB0.out⟩
  have hC' : ¬ (32 : Int) < (P.rules.length : Int) := by omega
  have hCd : decide ((32 : Int) < (P.rules.length : Int)) = false := decide_eq_false hC'
  have hbig : ¬ (12 < P.who.length ∨ 64 < P.users ∨ 32 < P.rules.length) := by rintro (q | q | q) <;> omega
  by_cases hD : P.users < 0
  · rw [chkN_bad hbig (.inl hD)]
    clear K3 hcw hcf
    go_enter Tryz.func22, Tryz.ntmps22
    go_wp2
    go_ret
    exact ⟨rfl, hB0.out⟩
  have hDd : decide (P.users < 0) = false := decide_eq_false hD
  by_cases hE : P.fixed.length = P.who.length
  case neg =>
    rw [chkN_bad hbig (.inr (.inl (by unfold fixB; rw [decide_eq_false hE, Bool.and_false])))]
    have hE' : ((P.fixed.length : Int) != (P.who.length : Int)) = true := by rw [bne_iff_ne]; omega
    clear K3 hcw hcf
    go_enter Tryz.func22, Tryz.ntmps22
    go_wp2
    go_ret
    exact ⟨rfl, hB0.out⟩
  have hE' : ((P.fixed.length : Int) != (P.who.length : Int)) = false := by rw [hE]; simp
  have hrg : Hid (rgt (P.who.length : Int) P.rules = rulB P) := by
    show _ = _
    unfold rgt rulB
    rw [decide_eq_true (by omega), decide_eq_true (by omega)]; rfl
  rw [hrg.out] at K3
  have hEl := hide' hE
  cases hR : rulB P with
  | false =>
    rw [chkN_bad hbig (.inr (.inr (.inr hR)))]
    rw [hR] at K3
    clear hcw hcf hE
    go_enter Tryz.func22, Tryz.ntmps22
    go_wp2_with fail
    refine K3.out.mono ?_
    rintro e w1 ⟨rfl, hb1⟩
    have hB1 : Hid (Below w.heap.size w w1) := hB0.out.trans (hb1.mono hB0.out.size)
    clear hb1 K3
    go_wp2
    go_ret
    exact ⟨rfl, hB1.out⟩
  | true =>
    rw [hR] at K3
    have hfin : Hid (chkN P = if (List.range P.who.length).all (okI P) then 0 else 1) := by
      show _ = _
      rw [okI_all hE]
      cases h1 : P.fixed.all (fun x => decide (x = -1) || isU P x) && P.who.all (outU P.users.toNat) with
      | true =>
        rw [Bool.and_eq_true] at h1
        rw [chkN_ok hbig (by
          rintro (q | q | q | q)
          · omega
          · unfold fixB at q; rw [h1.1, decide_eq_true hE] at q; cases q
          · unfold whoB at q; rw [h1.2] at q; cases q
          · rw [hR] at q; cases q)]; rfl
      | false =>
        rw [Bool.and_eq_false_iff] at h1
        rcases h1 with h1 | h1
        · rw [chkN_bad hbig (.inr (.inl (by unfold fixB; rw [h1]; rfl)))]; rfl
        · rw [chkN_bad hbig (.inr (.inr (.inl h1)))]; rfl
    obtain ⟨U, hUe⟩ : ∃ U : Nat, Hid (P.users = (U : Int)) := ⟨P.users.toNat, by show _ = _; omega⟩
    have hUn : Hid (P.users.toNat = U) := by show _ = _; rw [hUe.out]; simp
    clear hE
    go_enter Tryz.func22, Tryz.ntmps22
    go_wp2_with fail
    refine K3.out.mono ?_
    rintro e w1 ⟨rfl, hb1⟩
    have hB1 : Hid (Below w.heap.size w w1) := hB0.out.trans (hb1.mono hB0.out.size)
    have hp1 := hide' (hb0.out.below hb1)
    clear hb1 K3 hB0 hb0
    go_wp2
    go_loopw [4] (fun p wr => ∃ (j : Nat), j ≤ P.who.length ∧ p = .int .i64 (j : Int) ∧ Hid ((List.range j).all (okI P) = true) ∧ Hid (Below w.heap.size w wr) ∧ Hid (PbB wr w.heap.size P (.slice ow P.who.length cw) (.slice of P.fixed.length cf) (.slice or P.rules.length cr))) (fun p _ => ((P.who.length : Int) - intOf p).toNat)
    case atStart => exact ⟨0, Nat.zero_le _, rfl, rfl, hB1, hp1⟩
    case round =>
      clear hB1 hp1
      obtain ⟨j, hj, rfl, hA1, hB2, hp2⟩ := hrel
      by_cases hlt : j < P.who.length
      · have hlt' : (j : Int) < (P.who.length : Int) := by omega
        have hlf : (j : Int) < (P.fixed.length : Int) := by have := hEl.out; omega
        have hj0 : ¬ (j : Int) < 0 := by omega
        obtain ⟨z, hz⟩ : ∃ z, P.who[j]? = some z := ⟨_, List.getElem?_eq_getElem hlt⟩
        obtain ⟨x, hx⟩ : ∃ x, P.fixed[j]? = some x := ⟨_, List.getElem?_eq_getElem (by omega)⟩
        obtain ⟨g1, o1, rfl, d1, hz64⟩ := hcw.out j z hz
        obtain ⟨g2, o2, rfl, d2⟩ := hcf.out j x hx
        have c1 := M.cell_over d1 hB2.out
        have c2 := M.cell_over d2 hB2.out
        have hok : Hid (okI P j = ((decide (x = -1) || isU P x) && outU U z)) := by
          show _ = _
          unfold okI
          rw [List.getD_eq_getElem?_getD, hx, List.getD_eq_getElem?_getD, hz, Option.getD_some, Option.getD_some, hUn.out]
        have hnx : Hid ((List.range (j + 1)).all (okI P) = ((decide (x = -1) || isU P x) && outU U z)) := by
          show _ = _
          rw [List.range_succ, List.all_append, hA1.out, Bool.true_and, List.all_cons, List.all_nil, Bool.and_true, hok.out]
        have hno : Hid (((decide (x = -1) || isU P x) && outU U z) = false → (List.range P.who.length).all (okI P) = false) := fun q => by
          rw [List.all_eq_false]
          exact ⟨j, List.mem_range.2 hlt, by rw [hok.out, q]; decide⟩
        have q0 := hp2.out.c0
        have q1 := hp2.out.c1
        have q2 := hp2.out.c2
        rw [hUe.out] at q0
        have hUx : Hid (isU P x = (decide (0 ≤ x) && decide (x < (U : Int)))) := by show _ = _; unfold isU; rw [hUe.out]
        have hsh := shr_zero z U hz64
        have hU0 : ¬ (U : Int) < 0 := by omega
        clear hz hx d1 d2 hcw hcf hA1 hok hrg
        by_cases hx1 : x < -1
        · have hF := hide' (hno.out (by rw [hUx.out, decide_eq_false (by omega : ¬ x = -1), decide_eq_false (by omega : ¬ 0 ≤ x)]; rfl))
          clear hno hnx hUx hsh c1
          go_wp2
          go_quiet (fail)
          go_wp2
          go_ret
          exact ⟨by rw [hfin.out, hF.out]; rfl, below_drewS hB2.out _⟩
        · have hx1d : decide (x < -1) = false := decide_eq_false hx1
          by_cases hx2 : (U : Int) ≤ x
          · have hF := hide' (hno.out (by rw [hUx.out, decide_eq_false (by omega : ¬ x = -1), decide_eq_false (by omega : ¬ x < (U : Int))]; simp))
            clear hno hnx hUx hsh c1
            go_wp2
            go_quiet (fail)
            go_wp2
            go_ret
            exact ⟨by rw [hfin.out, hF.out]; rfl, below_drewS hB2.out _⟩
          · have hx2d : decide ((U : Int) ≤ x) = false := decide_eq_false hx2
            have hxo : Hid ((decide (x = -1) || isU P x) = true) := by
              show _ = _
              rw [hUx.out, Bool.or_eq_true, Bool.and_eq_true, decide_eq_true_eq, decide_eq_true_eq, decide_eq_true_eq]
              omega
            by_cases hU6 : U < 64
            · have hU6i : (U : Int) < 64 := by omega
              by_cases hzz : z / 2 ^ U = 0
              · have hF : Hid ((List.range (j + 1)).all (okI P) = true) := by
                  show _ = _
                  rw [hnx.out, hxo.out, Bool.true_and]; exact decide_eq_true hzz
                rw [Nat.min_eq_left (by omega), hzz] at hsh
                clear hno hnx hUx hxo hzz hx1 hx2 hU6
                go_wp2
                go_quiet (fail)
                go_wp2
                exact ⟨⟨j + 1, by omega, by go_num, hF, hide' (below_drewS hB2.out _), hide' hp2.out⟩, by simp [intOf]; omega⟩
              · have hF := hide' (hno.out (by rw [hxo.out, Bool.true_and]; exact decide_eq_false hzz))
                rw [Nat.min_eq_left (by omega)] at hsh
                obtain ⟨sh, hshe, hzi⟩ : ∃ sh : Int, (z : Int) / 2 ^ U = sh ∧ (sh != 0) = true := ⟨_, hsh, by rw [bne_iff_ne]; omega⟩
                clear hsh
                clear hno hnx hUx hxo hzz hx1 hx2 hU6
                go_wp2
                go_quiet (fail)
                go_wp2
                go_ret
                exact ⟨by rw [hfin.out, hF.out]; rfl, below_drewS hB2.out _⟩
            · have hU6i : ¬ (U : Int) < 64 := by omega
              have hU6d : decide ((U : Int) < 64) = false := decide_eq_false hU6i
              have hF : Hid ((List.range (j + 1)).all (okI P) = true) := by
                show _ = _
                rw [hnx.out, hxo.out, Bool.true_and]
                exact decide_eq_true (Nat.div_eq_of_lt (Nat.lt_of_lt_of_le hz64 (show 2 ^ 64 ≤ 2 ^ U from Nat.pow_le_pow_right (by decide) (by omega))))
              clear hno hnx hUx hxo hx1 hx2 hU6 hsh
              go_wp2
              go_quiet (fail)
              go_wp2
              exact ⟨⟨j + 1, by omega, by go_num, hF, hide' (below_drewS hB2.out _), hide' hp2.out⟩, by simp [intOf]; omega⟩
      · obtain rfl : j = P.who.length := by omega
        clear hcw hcf
        go_wp2
        go_ret
        exact ⟨by rw [hfin.out, hA1.out]; rfl, hB2.out⟩
end Go.Proofs.YtmbdnhgmpmnhmaaGreatDoor.S
