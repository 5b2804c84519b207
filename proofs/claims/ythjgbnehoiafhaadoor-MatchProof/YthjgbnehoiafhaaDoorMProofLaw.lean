/- MatchProof answers true. -/
import Derived.Test.YthjgbnehoiafhaaDoorMProofM
namespace Go.Proofs.YthjgbnehoiafhaaDoor.M
open Go.RowKit Go.Shelf
attribute [local irreducible] wpQuiet
set_option maxRecDepth 100000 in
set_option maxHeartbeats 4000000 in
theorem matchProof_walk (L : List Nat) (v : Value) (w : World) (hr : RowU w v L) (hw : ∀ z ∈ L, z < 18446744073709551616) (ht : Tab w) :
    Calls Tryd.prog 6 #[v] w fun e w' => e = .returned (.bool true) ∧ Below w.heap.size w w' := by
  obtain ⟨M, hMe⟩ : ∃ M, M = L.take 20 := ⟨_, rfl⟩
  have hlen : M.length ≤ 20 := by rw [hMe, List.length_take]; omega
  have hmem : Hid (∀ z ∈ M, z < 18446744073709551616) := fun z hz => hw z (List.mem_of_mem_take (by rw [← hMe]; exact hz))
  have KF : Hid (Calls Tryd.prog 10 #[v] w fun e w' => ∃ oa cap, e = .returned (.slice oa M.length cap) ∧ Hid (RowU w' (.slice oa M.length cap) M) ∧ Hid (Below w.heap.size w w')) := by
    refine (fewU L v w hr).mono ?_
    rintro e w' ⟨v', rfl, ho, hb⟩
    rw [← hMe] at ho
    have hr := RowU.of_owns ho
    obtain ⟨oa, cap, rfl⟩ := hr.shape
    exact ⟨oa, cap, rfl, hr, hb⟩
  have ht' := hide' ht
  clear hr hw ht hMe
  go_enter Tryd.func6, Tryd.ntmps6
  go_upto_if 18 with (first | (go_at_call 10; refine KF.out.mono ?_; rintro e w1 ⟨oa, cap, rfl, hR1, hb1⟩))
  clear KF
  go_cut [3] from 19 to 21 (fun s wx => ∃ oa cap Lr, s = .slice oa Lr.length cap ∧ Hid (Rws w1 wx (.slice oa Lr.length cap) Lr))
  case first =>
    obtain ⟨_, _, e9, hc9, _⟩ := hR1.out
    cases e9
    have hcap := hc9.1
    have ht1 : Hid (Tab w1) := ht'.out.over hb1.out
    by_cases hl : 12 < M.length
    · have he : (M.take 12).length = 12 := by rw [List.length_take]; omega
      have hend : Hid (Rws w1 w1 (.slice oa (M.take 12).length cap) (M.take 12)) := ⟨by rw [he]; exact hR1.out.cut 12 (by omega), fun z hz => hmem.out z (List.mem_of_mem_take hz), Below.refl _ _, ht1.out, by omega⟩
      have hl' : (12 : Int) < (M.length : Int) := by omega
      go_wp2
      go_meet
      exact ⟨oa, cap, M.take 12, by rw [he], hend⟩
    · have hend : Hid (Rws w1 w1 (.slice oa M.length cap) M) := ⟨hR1.out, hmem.out, Below.refl _ _, ht1.out, by omega⟩
      have hl' : ¬ (12 : Int) < (M.length : Int) := by omega
      go_wp2
      go_meet
      exact ⟨oa, cap, M, rfl, hend⟩
  case rest =>
  obtain ⟨oa2, cap2, Lr, rfl, hX⟩ := hcut
  have hn := hX.out.few
  have K1 := hide' hX.out.fewC
  clear hR1 hmem hlen
  go_wp2_with fail
  refine K1.out.mono ?_
  rintro e w2 ⟨oa3, cap3, rfl, _, hA3, hX2, _⟩
  clear K1 hX
  go_wp2_with fail
  refine (leastB2 hA3.out hn).mono ?_
  rintro e w3 (⟨pl, oaL, capL, rfl, hb3, hfull, hcelL⟩ | ⟨rfl, hb3, hnoI⟩)
  · have hX3 : Hid (Rws w1 w3 (.slice oa2 Lr.length cap2) Lr) := hX2.out.over hb3.out
    have hI : Hid (Ind (fn Lr) (fun r => r < Lr.length)) := full_iff.1 ⟨pl, hfull.out⟩
    have hsz : sizeN (fn Lr) Lr.length = Lr.length := by unfold sizeN; rw [if_pos hn]; exact (grN_iff _).2 hI.out
    clear hX2 hA3 hb3
    have K2 := hide' hX3.out.fewC
    go_wp2_with fail
    refine K2.out.mono ?_
    rintro e w4 ⟨oa4, cap4, rfl, _, hA4, hX4, hb4⟩
    go_wp2_with fail
    refine (shortF hA4.out).mono ?_
    rintro e w5 ⟨sv, rfl, hS, hb5⟩
    obtain rfl : sv = .slice none 0 0 := by
      cases hS.out with
      | no _ => rfl
      | yes _ hi => exact absurd hI.out hi
    have hX5 : Hid (Rws w1 w5 (.slice oa2 Lr.length cap2) Lr) := hX4.out.over hb5.out
    have hB5 : Hid (Below w3.heap.size w3 w5) := hb4.out.trans (hb5.out.mono hb4.out.size)
    clear K2 hX4 hA4 hS hb5 hb4
    have K3 := hide' hX5.out.fewC
    go_wp2_with fail
    refine K3.out.mono ?_
    rintro e w6 ⟨oa6, cap6, rfl, _, hA6, hX6, hb6⟩
    go_wp2_with fail
    refine (sizeF hA6.out).mono ?_
    rintro e w7 ⟨rfl, hb7⟩
    rw [hsz]
    have hX7 : Hid (Rws w1 w7 (.slice oa2 Lr.length cap2) Lr) := hX6.out.over hb7
    have hB7 : Hid (Below w3.heap.size w3 w7) := (hB5.out.trans (hb6.out.mono hB5.out.size)).trans (hb7.mono (Nat.le_trans hB5.out.size hb6.out.size))
    clear K3 hX6 hA6 hb6 hb7 hX5 hB5
    go_wp2_with fail
    refine (wakesM w7 (hX7.out.tab.over hX7.out.old)).mono ?_
    rintro e w8 ⟨rfl, hb8⟩
    have hX8 : Hid (Rws w1 w8 (.slice oa2 Lr.length cap2) Lr) := hX7.out.over hb8
    have hB8 : Hid (Below w3.heap.size w3 w8) := hB7.out.trans (hb8.mono hB7.out.size)
    clear hX7 hB7 hb8 hsz
    go_wp2
    go_loopw [7, 8] (fun q p wr => ∃ c U : Nat, c ≤ Lr.length ∧ q = .int .u64 (U : Int) ∧ p = .int .i64 (c : Int) ∧ U < 18446744073709551616 ∧ Hid (∀ u, U.testBit u = true ↔ ∃ r, r < c ∧ pl r = u) ∧ Hid (Below w8.heap.size w8 wr)) (fun _ p _ => ((Lr.length : Int) - intOf p).toNat)
    case atStart => exact ⟨0, 0, Nat.zero_le _, rfl, rfl, by decide, fun u => ⟨fun h => (by simp at h), fun ⟨r, h, _⟩ => absurd h (Nat.not_lt_zero r)⟩, Below.refl _ _⟩
    case round =>
      obtain ⟨c, U, hc, rfl, rfl, hU, hbits, hB⟩ := hrel
      have hB3 : Hid (Below w3.heap.size w3 wr) := hB8.out.trans (hB.out.mono hB8.out.size)
      have hXr : Hid (Rws w1 wr (.slice oa2 Lr.length cap2) Lr) := hX8.out.over hB.out
      have hend : Hid (Below w.heap.size w wr) := hb1.out.trans (hXr.out.old.mono hb1.out.size)
      by_cases hlt : c < Lr.length
      · have hlt' : (c : Int) < (Lr.length : Int) := by omega
        obtain ⟨oar, capr, e9, hcap9, hcel⟩ := hXr.out.row
        cases e9
        obtain ⟨g, o, rfl, hcr⟩ := hcel c _ (fn_get hlt)
        obtain ⟨gL, oL, rfl, hcl0⟩ := hcelL.out c hlt
        have cR := cell_over hcr hXr.out.old
        have cL := cell_over hcl0 hB3.out
        have hx := fn_lt hXr.out.word c
        have hbit : (fn Lr c).testBit (pl c) = true := hfull.out.bit c hlt
        have hp64 : pl c < 64 := by
          rcases Nat.lt_or_ge (pl c) 64 with q | q
          · exact q
          · rw [Nat.testBit_lt_two_pow (Nat.lt_of_lt_of_le hx (Nat.pow_le_pow_right (n := 2) (by decide) q))] at hbit; cases hbit
        have hfree : U.testBit (pl c) = false := by
          cases e : U.testBit (pl c)
          · rfl
          · obtain ⟨r, h1, h2⟩ := (hbits.out _).1 e
            have := hfull.out.inj r c (by omega) hlt h2
            omega
        have hs1 := shr_bitT hx hbit
        have hs2 := shr_bitF hU hfree
        have hp0 : ¬ ((pl c : Nat) : Int) < 0 := by omega
        have hp1 : ¬ (63 : Int) < ((pl c : Nat) : Int) := by omega
        have hsh := shlc (pl c) hp64
        have hpw : 2 ^ pl c < 18446744073709551616 := Nat.pow_lt_pow_right (a := 2) (m := pl c) (n := 64) (by decide) hp64
        have hor := u64_or_nat U (2 ^ pl c) hU hpw
        have hnew : Hid (U ||| 2 ^ pl c < 18446744073709551616 ∧ ∀ u, (U ||| 2 ^ pl c).testBit u = true ↔ ∃ r, r < c + 1 ∧ pl r = u) := ⟨Nat.or_lt_two_pow (n := 64) hU hpw, fun u => by
          rw [Nat.testBit_or, Bool.or_eq_true, hbits.out u, Nat.testBit_two_pow]
          constructor
          · rintro (⟨r, h1, h2⟩ | h)
            · exact ⟨r, by omega, h2⟩
            · exact ⟨c, by omega, of_decide_eq_true h⟩
          · rintro ⟨r, h1, h2⟩
            by_cases e : r = c
            · subst e; exact .inr (decide_eq_true h2)
            · exact .inl ⟨r, by omega, h2⟩⟩
        clear hcel hcl0 hcr hbit hfree hcelL hfull hbits
        generalize hP : pl c = pc at *
        clear hP
        generalize U ||| 2 ^ pc = U2 at *
        generalize 2 ^ pc = pw at *
        generalize fn Lr c = rc at *
        go_wp2
        go_quiet (fail)
        have hbq : Below wr.heap.size wr (wr.drewN nq) := ⟨rfl, rfl, rfl, Nat.le_refl _, fun _ _ => rfl⟩
        have cq0 := cell_over cL hbq
        have hBq : Hid (Below w8.heap.size w8 (wr.drewN nq)) := hB.out.trans (hbq.mono hB.out.size)
        go_wp2
        go_roundw
        case rel => exact ⟨c + 1, U2, by omega, rfl, by go_num, hnew.out.1, hnew.out.2, hBq⟩
        case measure => simp [intOf]; omega
      · obtain rfl : c = Lr.length := by omega
        go_wp2
        go_ret
        exact ⟨rfl, hend.out⟩
  · have hX3 : Hid (Rws w1 w3 (.slice oa2 Lr.length cap2) Lr) := hX2.out.over hb3.out
    have hsz : sizeN (fn Lr) Lr.length ≠ Lr.length := fun h => hnoI.out (by unfold sizeN at h; rw [if_pos hn] at h; exact (grN_iff _).1 h)
    clear hX2 hA3 hb3
    have K2 := hide' hX3.out.fewC
    go_wp2_with fail
    refine K2.out.mono ?_
    rintro e w4 ⟨oa4, cap4, rfl, _, hA4, hX4, hb4⟩
    go_wp2_with fail
    refine (shortF hA4.out).mono ?_
    rintro e w5 ⟨sv, rfl, hS, hb5⟩
    obtain ⟨kk, gs, caps, t, rfl, hkt, hk1, hkn, hm, hbd, hf, ho⟩ : ∃ kk gs caps t, sv = .slice (some ⟨gs, 0, none⟩) kk caps ∧ Hid ((nums t).length = kk) ∧ 1 ≤ kk ∧ kk ≤ Lr.length ∧ Hid (t ∈ chF kk (2 ^ Lr.length - 1)) ∧ Hid (Bad (fn Lr) kk t) ∧ Hid (∀ k', 1 ≤ k' → k' < kk → ∀ t' ∈ chF k' (2 ^ Lr.length - 1), ¬ Bad (fn Lr) k' t') ∧ Hid (I.RowI w5 (.slice (some ⟨gs, 0, none⟩) kk caps) (lst t)) := by
      cases hS.out with
      | no h =>
        rcases h with h | h
        · omega
        · exact absurd h hnoI.out
      | yes _ _ k g cap' t h1 h2 h3 h4 h5 h6 h7 =>
        have hk := ((chF_mem k _ t).1 h3).2.2
        exact ⟨k, g, cap', t, by rw [hk], hk, h1, h2, h3, h4, h6, by rw [← hk]; exact I.RowI.of_owns h7⟩
    have hX5 : Hid (Rws w1 w5 (.slice oa2 Lr.length cap2) Lr) := hX4.out.over hb5.out
    clear K2 hX4 hA4 hS hb5 hb4
    have K3 := hide' hX5.out.fewC
    go_wp2_with fail
    refine K3.out.mono ?_
    rintro e w6 ⟨oa6, cap6, rfl, _, hA6, hX6, hb6⟩
    go_wp2_with fail
    refine (sizeF hA6.out).mono ?_
    rintro e w7 ⟨rfl, hb7⟩
    have hX7 : Hid (Rws w1 w7 (.slice oa2 Lr.length cap2) Lr) := hX6.out.over hb7
    have hB7 : Hid (Below w5.heap.size w5 w7) := hb6.out.trans (hb7.mono hb6.out.size)
    clear K3 hX6 hA6 hb6 hb7 hX5
    generalize sizeN (fn Lr) Lr.length = sz at *
    have hszI : ((sz : Int) == (Lr.length : Int)) = false := by simp; omega
    have hk0 : (0 : Int) < (kk : Int) := by omega
    go_wp2_with fail
    refine (wakesM w7 (hX7.out.tab.over hX7.out.old)).mono ?_
    rintro e w8 ⟨rfl, hb8⟩
    have hX8 : Hid (Rws w1 w8 (.slice oa2 Lr.length cap2) Lr) := hX7.out.over hb8
    have hB8 : Hid (Below w5.heap.size w5 w8) := hB7.out.trans (hb8.mono hB7.out.size)
    clear hX7 hB7 hb8 hsz hszI
    obtain ⟨S, hSinc, hSlen, hScell, hSbd⟩ : ∃ S : List Nat, Hid (Inc 0 Lr.length S) ∧ Hid (S.length = kk) ∧ Hid (∀ i, i < kk → w8.cell? ⟨gs, i, none⟩ = some (.int .i64 (fn S i : Int))) ∧ Hid ((nums (uwL (fn Lr) S)).length < kk) := by
      obtain ⟨hi1, hi2⟩ := rowsOf_inc hm.out
      refine ⟨rowsOf t, hi1, hi2, fun i hi => ?_, ?_⟩
      · obtain ⟨oa9, cap9, e9, _, hc9⟩ := ho.out
        cases e9
        obtain ⟨g9, o9, e9, hc⟩ := hc9 i (fn (rowsOf t) i : Int) (by
          rw [← rowsOf_ints, I.ints, List.getElem?_map, fn_get (by omega)]; rfl)
        cases e9
        have := cell_over hc hB8.out
        simpa using this
      · have := (rowsOf_bd (R := fn Lr) hkt.out).2 hbd.out
        unfold BdL at this
        show _ < _
        omega
    have hwd : Hid (∀ x, fn Lr x < 18446744073709551616) := fun x => fn_lt hX8.out.word x
    have hrow8 : Hid (∀ V, Below w8.heap.size w8 V → ∀ x, x < Lr.length → ∃ g o, oa2 = some ⟨g, o, none⟩ ∧ V.cell? ⟨g, o + x, none⟩ = some (.int .u64 (fn Lr x : Int))) := fun V hV x hx => by
      obtain ⟨oar, capr, e9, _, hcel⟩ := hX8.out.now
      cases e9
      obtain ⟨g, o, e, hc⟩ := hcel x _ (fn_get hx)
      exact ⟨g, o, e, cell_over hc hV⟩
    have hend8 : Hid (Below w.heap.size w w8) := hb1.out.trans (hX8.out.old.mono hb1.out.size)
    have htab8 : Hid (Tab w8) := hX8.out.tab.over hX8.out.old
    clear hm hbd ho hB8 hX8 hX3 hkt
    go_wp2
    go_loopw [9, 10] (fun q p wr => ∃ c : Nat, c ≤ kk ∧ q = .int .u64 (uwL (fn Lr) (S.take c) : Int) ∧ p = .int .i64 (c : Int) ∧ Hid (Below w8.heap.size w8 wr)) (fun _ p _ => ((kk : Int) - intOf p).toNat)
    case atStart => exact ⟨0, Nat.zero_le _, rfl, rfl, Below.refl _ _⟩
    case round =>
      obtain ⟨c, hc, rfl, rfl, hB⟩ := hrel
      have hq64 := uwL_lt hwd.out (S.take c)
      by_cases hlt : c < kk
      · have hlt' : (c : Int) < (kk : Int) := by omega
        have hsn : fn S c < Lr.length := (hSinc.out.2 _ (fn_mem (by rw [hSlen.out]; exact hlt))).2
        have cS := cell_over (hScell.out c hlt) hB.out
        obtain ⟨g, o, rfl, cR⟩ := hrow8.out wr hB.out (fn S c) hsn
        have hrw64 := hwd.out (fn S c)
        have hor := u64_or_nat (uwL (fn Lr) (S.take c)) (fn Lr (fn S c)) hq64 hrw64
        have hstep : Hid (uwL (fn Lr) (S.take (c + 1)) = uwL (fn Lr) (S.take c) ||| fn Lr (fn S c)) := uw_take (by rw [hSlen.out]; exact hlt)
        have hprev : Hid (∀ d, c = d + 1 → fn S d < fn S c ∧ wr.cell? ⟨gs, d, none⟩ = some (.int .i64 (fn S d : Int))) := fun d e => ⟨fn_lt_of hSinc.out.1 (by omega) (by rw [hSlen.out]; exact hlt), cell_over (hScell.out d (by omega)) hB.out⟩
        clear hrow8 hScell hSbd
        generalize uwL (fn Lr) (S.take c) = u1 at *
        generalize fn Lr (fn S c) = rv at *
        generalize fn S c = sc at *
        have hs0 : ¬ (sc : Int) < 0 := by omega
        have hs1 : ¬ (Lr.length : Int) ≤ (sc : Int) := by omega
        have hs2 : (sc : Int) < (Lr.length : Int) := by omega
        by_cases hc0 : c = 0
        · have hcd1 : ¬ (0 : Int) < (c : Int) := by omega
          have hcd2 : ¬ 0 < c := by omega
          have hcd3 : decide (0 < c) = false := decide_eq_false hcd2
          clear hc0 hprev
          go_wp2
          go_quiet (fail)
          have hbq : Below wr.heap.size wr (wr.drewN nq) := ⟨rfl, rfl, rfl, Nat.le_refl _, fun _ _ => rfl⟩
          have cq0 := cell_over cS hbq
          have cq1 := cell_over cR hbq
          have hBq : Hid (Below w8.heap.size w8 (wr.drewN nq)) := hB.out.trans (hbq.mono hB.out.size)
          go_wp2
          go_roundw
          case rel => exact ⟨c + 1, by omega, by rw [hstep.out], by go_num, hBq⟩
          case measure => simp [intOf]; omega
        · obtain ⟨d, hd⟩ : ∃ d, c = d + 1 := ⟨c - 1, by omega⟩
          obtain ⟨hdlt, cD⟩ := hprev.out d hd
          have hd' := hide' hd
          have hdi : (c : Int) - 1 = (d : Int) := by omega
          have hdn : d < 12 := by omega
          have hdk : (d : Int) < (kk : Int) := by omega
          have hc1 : (0 : Int) < (c : Int) := by omega
          have hcd2 : 0 < c := by omega
          have hcd3 : decide (0 < c) = true := decide_eq_true hcd2
          have hw1 : IntKind.i64.wrap ((c : Int) - 1) = (d : Int) := by simp only [IntKind.wrap, IntKind.bits, IntKind.signed]; simp; omega
          have hw2 : IntKind.i64.wrap (d : Int) = (d : Int) := by simp only [IntKind.wrap, IntKind.bits, IntKind.signed]; simp; omega
          clear hd hprev hc0
          generalize fn S d = sd at *
          have hle : ¬ (sc : Int) ≤ (sd : Int) := by omega
          go_wp2
          go_quiet (fail)
          have hbq : Below wr.heap.size wr (wr.drewN nq) := ⟨rfl, rfl, rfl, Nat.le_refl _, fun _ _ => rfl⟩
          have cq0 := cell_over cS hbq
          have cq1 := cell_over cR hbq
          have hBq : Hid (Below w8.heap.size w8 (wr.drewN nq)) := hB.out.trans (hbq.mono hB.out.size)
          go_wp2
          go_roundw
          case rel => exact ⟨c + 1, by omega, by rw [hstep.out], by go_num, hBq⟩
          case measure => simp [intOf]; omega
      · obtain rfl : c = kk := by omega
        have hall : S.take c = S := List.take_of_length_le (by rw [hSlen.out]; exact Nat.le_refl _)
        rw [hall] at hq64 ⊢
        have KB := hide' (bitsL _ hq64 wr)
        have hbn := hSbd.out
        clear hall hSbd
        generalize (nums (uwL (fn Lr) S)).length = bn at *
        generalize uwL (fn Lr) S = uS at *
        have hbn' : ¬ (c : Int) ≤ (bn : Int) := by omega
        have hbn2 : ¬ c ≤ bn := by omega
        have hbn3 : decide (c ≤ bn) = false := decide_eq_false hbn2
        go_wp2_with fail
        refine KB.out.mono ?_
        rintro e w9 ⟨rfl, rfl⟩
        clear KB
        go_wp2
        go_loopw [11, 12, 13] (fun p _ _ wr2 => ∃ m : Nat, m ≤ c ∧ p = .int .i64 (m : Int) ∧ Hid (Below w8.heap.size w8 wr2)) (fun p _ _ _ => ((c : Int) - intOf p).toNat)
        case atStart => exact ⟨0, Nat.zero_le _, rfl, hB⟩
        case round =>
          obtain ⟨m, hm, rfl, hB2⟩ := hrel
          obtain ⟨WRB, rfl⟩ : ∃ W, W = wr := ⟨_, rfl⟩
          by_cases hmlt : m < c
          · have hmlt' : (m : Int) < (c : Int) := by omega
            obtain ⟨i0, hi0, hz0, hz1, hz2⟩ := info_parts infoU
            go_wp2
            go_loopw [12, 13] (fun r p wr3 => ∃ i : Nat, i ≤ c ∧ p = .int .i64 (i : Int) ∧ Hid (wr3.ownsRow WRB.heap.size 29 1 r (wds (fn Lr) (rl S m i)).length (cellsU (wds (fn Lr) (rl S m i)))) ∧ Hid (Below WRB.heap.size WRB wr3)) (fun _ p _ => ((c : Int) - intOf p).toNat)
            case atStart => exact ⟨0, Nat.zero_le _, rfl, World.ownsRow_nil _ _ _ _, Below.refl _ _⟩
            case round =>
              obtain ⟨i, hi, rfl, hO, hB3⟩ := hrel
              obtain ⟨WRI, rfl⟩ : ∃ W, W = wr := ⟨_, rfl⟩
              have hBw : Hid (Below w8.heap.size w8 WRI) := hB2.out.trans (hB3.out.mono hB2.out.size)
              by_cases hilt : i < c
              · have hilt' : (i : Int) < (c : Int) := by omega
                by_cases him : i = m
                · subst him
                  have hne : ((i : Int) != (i : Int)) = false := by simp
                  have hrl := hide' (rl_same S i)
                  go_wp2
                  go_roundw
                  case rel => exact ⟨i + 1, by omega, by go_num, by rw [hrl.out]; exact hO, hB3⟩
                  case measure => simp [intOf]; omega
                · have hne : ((i : Int) != (m : Int)) = true := by simp; omega
                  have hrl := hide' (rl_next S him)
                  have hsn : fn S i < Lr.length := (hSinc.out.2 _ (fn_mem (by rw [hSlen.out]; exact hilt))).2
                  have cS := cell_over (hScell.out i hilt) hBw.out
                  obtain ⟨g, o, rfl, cR⟩ := hrow8.out WRI hBw.out (fn S i) hsn
                  have hwl : (wds (fn Lr) (rl S m i)).length ≤ 12 := by
                    have := rl_len S m i
                    simp only [wds, List.length_map]
                    omega
                  have hcat : Hid (∀ (V : World) (v : Value), V.ownsRow WRB.heap.size 29 1 v ((wds (fn Lr) (rl S m i)).length + 1) (cellsU (wds (fn Lr) (rl S m i)) ++ [.int .u64 (fn Lr (fn S i) : Int)]) → V.ownsRow WRB.heap.size 29 1 v (wds (fn Lr) (rl S m (i + 1))).length (cellsU (wds (fn Lr) (rl S m (i + 1))))) := fun V v h => by
                    rw [hrl.out]
                    simpa [wds, cellsU] using h
                  have hs2 : (fn S i : Int) < (Lr.length : Int) := by omega
                  have hrsz := hB3.out.size
                  clear hrl
                  generalize wds (fn Lr) (rl S m i) = wl at *
                  generalize fn Lr (fn S i) = rv at *
                  generalize fn S i = si at *
                  go_wp2_with (at_builtin; refine wpList_append_own _ rfl _ _ 22 rfl WRB.heap.size 29 i0 (.int .u64 0) 1 8 Tryd.underlying22 hi0 hz0 hz1 hz2 rfl (by decide) _ wl.length (cellsU wl) rfl (hO.out.alloc _) ⟨WRI.heap.size, 0, none⟩ 1 1 [.int .u64 (rv : Int)] rfl rfl (World.news_of_block (cs := #[.int .u64 (rv : Int)]) (I.heap_new _ _)) (by simp [Value.oneCell']) (by unfold maxLen; omega) (by omega) (by simp; omega) ?_; intro v4 w4' hown4 hgrow4 hnil4)
                  have hO4 := hcat.out _ _ hown4
                  have hB4 : Below WRB.heap.size WRB w4' := (hB3.out.alloc hB3.out.size _).grown hgrow4 (by simp; omega) (fun j ej => own_geI hO.out j ej)
                  go_roundw
                  case rel => exact ⟨i + 1, by omega, by go_num, hO4, hB4⟩
                  case measure => simp [intOf]; omega
              · obtain rfl : i = c := by omega
                have hrs := rest_size (R := fn Lr) hn hSinc.out hSlen.out hkn hf.out hmlt
                have hru := RowU.of_owns hO.out
                obtain ⟨oa9, cap9, rfl⟩ := hru.shape
                have KS := hide' (sizeF (hru.rwa (htab8.out.over hBw.out) (fun z hz => by
                  obtain ⟨x, _, rfl⟩ := List.mem_map.1 hz
                  exact hwd.out x)))
                rw [hrs] at KS
                clear hrs hru hO
                generalize (wds (fn Lr) (rl S m i)).length = wn at *
                go_wp2_with fail
                refine KS.out.mono ?_
                rintro e w10 ⟨rfl, hb10⟩
                have hB10 : Hid (Below w8.heap.size w8 w10) := hBw.out.trans (hb10.mono hBw.out.size)
                clear KS hb10
                go_wp2
                go_roundw
                case rel => exact ⟨m + 1, by omega, by go_num, hB10⟩
                case measure => simp [intOf]; omega
          · obtain rfl : m = c := by omega
            have hfin : Hid (Below w.heap.size w WRB) := hend8.out.trans (hB2.out.mono hend8.out.size)
            go_wp2
            go_ret
            exact ⟨rfl, hfin.out⟩
end Go.Proofs.YthjgbnehoiafhaaDoor.M
