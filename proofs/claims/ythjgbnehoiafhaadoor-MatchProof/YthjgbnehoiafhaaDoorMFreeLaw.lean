/- MatchFree answers true. -/
import Derived.Test.YthjgbnehoiafhaaDoorMWakes
import Derived.BigQuiet
import Derived.Deep.QuietTactic
namespace Go.Proofs.YthjgbnehoiafhaaDoor.M
open Go.RowKit Go.Shelf
/-- The rows as the laws' calls have them. -/
structure Rws (W0 W : World) (v : Value) (L : List Nat) : Prop where
  row : RowU W0 v L
  word : ∀ z ∈ L, z < 18446744073709551616
  old : Below W0.heap.size W0 W
  tab : Tab W0
  few : L.length ≤ 12
theorem Rws.over {W0 W W' : World} {v : Value} {L : List Nat} (h : Rws W0 W v L) (hb : Below W.heap.size W W') : Rws W0 W' v L := ⟨h.row, h.word, h.old.trans (hb.mono h.old.size), h.tab, h.few⟩
theorem Rws.now {W0 W : World} {v : Value} {L : List Nat} (h : Rws W0 W v L) : RowU W v L := h.row.below h.old (Nat.le_refl _)
/-- few of them: the same in new memory. -/
theorem Rws.fewC {W0 W : World} {v : Value} {L : List Nat} (h : Rws W0 W v L) : Calls Tryd.prog 10 #[v] W fun e w' => ∃ oa cap, e = .returned (.slice oa L.length cap) ∧ Hid (w'.ownsRow W.heap.size 29 1 (.slice oa L.length cap) L.length (cellsU L)) ∧ Hid (RwA w' (.slice oa L.length cap) L.length (fn L)) ∧ Hid (Rws W0 w' v L) ∧ Hid (Below W.heap.size W w') := by
  refine (fewU L v W h.now).mono ?_
  rintro e w' ⟨v', rfl, ho, hb⟩
  rw [List.take_of_length_le (by have := h.few; omega)] at ho
  have hr := RowU.of_owns ho
  obtain ⟨oa, cap, rfl⟩ := hr.shape
  exact ⟨oa, cap, rfl, ho, hr.rwa ((h.tab.over h.old).over hb) h.word, h.over hb, hb⟩
/-- One place alone for one row. -/
theorem fn_set {L : List Nat} {i : Nat} (hi : i < L.length) (x r : Nat) : fn (L.set i x) r = if r = i then x else fn L r := by
  unfold fn
  simp only [List.getD_eq_getElem?_getD, List.getElem?_set]
  by_cases e : i = r
  · subst e; simp [hi]
  · rw [if_neg e, if_neg (fun h => e h.symm)]
theorem full_one {L : List Nat} {i u : Nat} (hi : i < L.length) (g : Nat → Nat) : FullM L.length (fn (L.set i (fn L i &&& 2 ^ u))) g ↔ FullM L.length (fn L) g ∧ g i = u := by
  have hb : ∀ v, (fn L i &&& 2 ^ u).testBit v = true ↔ (fn L i).testBit v = true ∧ u = v := fun v => by
    rw [Nat.testBit_and, Bool.and_eq_true, Nat.testBit_two_pow]
    simp
  constructor
  · intro h
    have h0 := h.bit i hi
    rw [fn_set hi, if_pos rfl] at h0
    have h1 := (hb _).1 h0
    refine ⟨⟨fun r hr => ?_, h.inj⟩, h1.2.symm⟩
    by_cases e : r = i
    · subst e; exact h1.1
    · have := h.bit r hr
      rwa [fn_set hi, if_neg e] at this
  · rintro ⟨h, e⟩
    refine ⟨fun r hr => ?_, h.inj⟩
    rw [fn_set hi]
    by_cases e2 : r = i
    · subst e2
      rw [if_pos rfl]
      exact (hb _).2 ⟨h.bit r hr, e.symm⟩
    · rw [if_neg e2]; exact h.bit r hr
theorem shr_bit (x i : Nat) (hx : x < 18446744073709551616) : bits .and .u64 ((x : Int) / 2 ^ i) 1 = ((x.testBit i).toNat : Int) := by
  have h1 : ((x : Int) / 2 ^ i) = ((x / 2 ^ i : Nat) : Int) := by simp
  have h2 : x / 2 ^ i < 18446744073709551616 := Nat.lt_of_le_of_lt (Nat.div_le_self _ _) hx
  have h3 := u64_and_nat (x / 2 ^ i) 1 h2 (by decide)
  rw [h1, show (1 : Int) = ((1 : Nat) : Int) from rfl, h3, Nat.and_one_is_mod, Nat.testBit_eq_decide_div_mod_eq]
  rcases Nat.mod_two_eq_zero_or_one (x / 2 ^ i) with e | e <;> rw [e] <;> rfl
theorem shr_bitT {x i : Nat} (hx : x < 18446744073709551616) (h : x.testBit i = true) : bits .and .u64 ((x : Int) / 2 ^ i) 1 = 1 := by rw [shr_bit x i hx, h]; rfl
theorem shr_bitF {x i : Nat} (hx : x < 18446744073709551616) (h : x.testBit i = false) : bits .and .u64 ((x : Int) / 2 ^ i) 1 = 0 := by rw [shr_bit x i hx, h]; rfl
/-- What Least answers, by a Bool. -/
def LeB (w : World) (n : Nat) (R : Nat → Nat) (e : Ending) (w' : World) : Prop :=
  ∃ (ok : Bool) (lv : Value), e = .returned (.tuple #[lv, .bool ok]) ∧ Hid (Below w.heap.size w w') ∧ Hid (ok = true → ∃ pl oaL capL, Lex n R pl n ∧ lv = .slice oaL n capL ∧ n ≤ capL ∧ ∀ r, r < n → ∃ g o, oaL = some ⟨g, o, none⟩ ∧ w'.cell? ⟨g, o + r, none⟩ = some (.int .i64 (pl r : Int))) ∧ Hid (ok = true ↔ ∃ g, FullM n R g)
theorem leastB {n : Nat} {R : Nat → Nat} {w : World} {oa : Option Addr} {cap : Nat} (hA : RwA w (.slice oa n cap) n R) (hn : n ≤ 12) : Calls Tryd.prog 9 #[.slice oa n cap] w (LeB w n R) :=
  (leastF hA).mono fun e w' ⟨hb, h⟩ => by
    rcases h with ⟨_, pl, v, he, hL, ho⟩ | ⟨he, hno⟩
    · exact ⟨true, v, he, hb, fun _ => by
        obtain ⟨oaL, capL, e, hc, hcl⟩ := I.RowI.of_owns ho.out
        rw [plL_len] at e hc
        exact ⟨pl, oaL, capL, hL.out, e, hc.1, fun r hr => hcl r _ (by simp [plL, hr])⟩, ⟨fun _ => ⟨pl, hL.out.full⟩, fun _ => rfl⟩⟩
    · exact ⟨false, _, he, hb, fun h => (by cases h), ⟨fun h => (by cases h), fun ⟨g, hg⟩ => absurd (full_iff.1 ⟨g, hg⟩) (hno.out hn)⟩⟩
/-- What Free answers, as the law looks at it. -/
theorem FreS.free {n : Nat} {R : Nat → Nat} {i F : Nat} (h : FreS n R (i : Int) F) (hn : n ≤ 12) (hi : i < n) (u : Nat) : F.testBit u = true ↔ ∃ g, FullM n R g ∧ g i = u := by
  rw [h u]
  constructor
  · rintro ⟨_, _, _, g, h1, h2⟩; exact ⟨g, h1, h2⟩
  · rintro ⟨g, h1, h2⟩; exact ⟨hn, by omega, by omega, g, h1, h2⟩
theorem sub_andNot {F x : Nat} (hF : F < 18446744073709551616) (hx : x < 18446744073709551616) (h : ∀ u, F.testBit u = true → x.testBit u = true) : bits .andNot .u64 (F : Int) (x : Int) = 0 := by
  rw [u64_andNot_nat F x hF hx]
  have : F &&& (18446744073709551615 - x) = 0 := by
    apply Nat.eq_of_testBit_eq
    intro u
    rw [Nat.zero_testBit]
    cases e : F.testBit u
    · rw [Nat.testBit_and, e]; rfl
    · have hx2 := h u e
      have hu : u < 64 := by
        rcases Nat.lt_or_ge u 64 with q | q
        · exact q
        · rw [Nat.testBit_lt_two_pow (Nat.lt_of_lt_of_le hF (Nat.pow_le_pow_right (n := 2) (by decide) q))] at e; cases e
      have := minus_bits 64 F x hx u hu
      rw [show (18446744073709551615 : Nat) = 2 ^ 64 - 1 by decide, this, e, hx2]; rfl
  rw [this]; rfl
set_option maxRecDepth 100000 in
set_option maxHeartbeats 4000000 in
theorem matchFree_walk (L : List Nat) (v : Value) (w : World) (hr : RowU w v L) (hw : ∀ z ∈ L, z < 18446744073709551616) (ht : Tab w) :
    Calls Tryd.prog 7 #[v] w fun e w' => e = .returned (.bool true) ∧ Below w.heap.size w w' := by
  obtain ⟨M, hMe⟩ : ∃ M, M = L.take 20 := ⟨_, rfl⟩
  have hlen : M.length ≤ 20 := by rw [hMe, List.length_take]; omega
  have hmem : Hid (∀ z ∈ M, z < 18446744073709551616) := fun z hz => hw z (List.mem_of_mem_take (by rw [← hMe]; exact hz))
  have KF : Hid (Calls Tryd.prog 10 #[v] w fun e w' => ∃ oa cap, e = .returned (.slice oa M.length cap) ∧ Hid (RowU w' (.slice oa M.length cap) M) ∧ Hid (Below w.heap.size w w')) := by
    refine (fewU L v w hr).mono ?_
    rintro e w' ⟨v', rfl, ho, hb⟩
    rw [← hMe] at ho
    have hr := RowU.of_owns ho
    obtain ⟨oa, cap, rfl⟩ := hr.shape
    exact ⟨oa, cap, rfl, hr, hb⟩
  have ht' := hide' ht
  clear hr hw ht hMe
  go_enter Tryd.func7, Tryd.ntmps7
  go_upto_if 16 with (first | (go_at_call 10; refine KF.out.mono ?_; rintro e w1 ⟨oa, cap, rfl, hR1, hb1⟩))
  clear KF
  go_cut [3] from 17 to 19 (fun s wx => ∃ oa cap Lr, s = .slice oa Lr.length cap ∧ Hid (Rws w1 wx (.slice oa Lr.length cap) Lr))
  case first =>
    obtain ⟨_, _, e9, hc9, _⟩ := hR1.out
    cases e9
    have hcap := hc9.1
    have ht1 : Hid (Tab w1) := ht'.out.over hb1.out
    by_cases hl : 12 < M.length
    · have he : (M.take 12).length = 12 := by rw [List.length_take]; omega
      have hend : Hid (Rws w1 w1 (.slice oa (M.take 12).length cap) (M.take 12)) := ⟨by rw [he]; exact hR1.out.cut 12 (by omega), fun z hz => hmem.out z (List.mem_of_mem_take hz), Below.refl _ _, ht1.out, by omega⟩
      have hl' : (12 : Int) < (M.length : Int) := by omega
      go_wp2
      go_meet
      exact ⟨oa, cap, M.take 12, by rw [he], hend⟩
    · have hend : Hid (Rws w1 w1 (.slice oa M.length cap) M) := ⟨hR1.out, hmem.out, Below.refl _ _, ht1.out, by omega⟩
      have hl' : ¬ (12 : Int) < (M.length : Int) := by omega
      go_wp2
      go_meet
      exact ⟨oa, cap, M, rfl, hend⟩
  case rest =>
  obtain ⟨oa2, cap2, Lr, rfl, hX⟩ := hcut
  have hn := hX.out.few
  have K1 := hide' hX.out.fewC
  clear hR1 hmem hlen
  go_wp2_with fail
  refine K1.out.mono ?_
  rintro e w2 ⟨oa3, cap3, rfl, _, hA3, hX2, _⟩
  clear K1 hX
  go_wp2_with fail
  refine (leastB hA3.out hn).mono ?_
  rintro e w3 ⟨ok, lv, rfl, hb3, hl3, hok3⟩
  have hX3 : Hid (Rws w1 w3 (.slice oa2 Lr.length cap2) Lr) := hX2.out.over hb3.out
  have hB3 : Hid (Below w.heap.size w w3) := hb1.out.trans (hX3.out.old.mono hb1.out.size)
  clear hX2 hA3 hb3
  go_wp2
  go_loopw [6, 7, 8, 9, 10, 11] (fun p _ _ _ _ _ wr => ∃ c : Nat, c ≤ Lr.length ∧ p = .int .i64 (c : Int) ∧ Hid (Below w3.heap.size w3 wr)) (fun p _ _ _ _ _ _ => ((Lr.length : Int) - intOf p).toNat)
  case atStart => exact ⟨0, Nat.zero_le _, rfl, Below.refl _ _⟩
  case round =>
    obtain ⟨c, hc, rfl, hB⟩ := hrel
    have hXr : Hid (Rws w1 wr (.slice oa2 Lr.length cap2) Lr) := hX3.out.over hB.out
    by_cases hlt : c < Lr.length
    · have hlt' : (c : Int) < (Lr.length : Int) := by omega
      have K1 := hide' hXr.out.fewC
      obtain ⟨oar, capr, e9, hcap9, hcel⟩ := hXr.out.row
      cases e9
      obtain ⟨g, o, rfl, hcr⟩ := hcel c _ (fn_get hlt)
      have hx := fn_lt hXr.out.word c
      clear hcel
      go_wp2_with fail
      refine K1.out.mono ?_
      rintro e w4 ⟨oa4, cap4, rfl, _, hA4, hX4, hb4⟩
      clear K1
      go_wp2_with fail
      refine (freeF hA4.out (c : Int)).mono ?_
      rintro e w5 ⟨F, rfl, hF, hb5⟩
      have hB5 : Hid (Below w3.heap.size w3 w5) := (hB.out.trans (hb4.out.mono hB.out.size)).trans (hb5.mono (Nat.le_trans hB.out.size hb4.out.size))
      have hX5 : Hid (Rws w1 w5 (.slice (some ⟨g, o, none⟩) Lr.length cap2) Lr) := hX3.out.over hB5.out
      have hfr : Hid (∀ u, F.testBit u = true ↔ ∃ g, FullM Lr.length (fn Lr) g ∧ g c = u) := fun u => hF.out.2.free hn hlt u
      have hFl := hF.out.1
      have cx := cell_over (cell_over hcr hXr.out.old) (hb4.out.trans (hb5.mono hb4.out.size))
      have han := sub_andNot hFl hx fun u hu => by
        obtain ⟨g', h1, h2⟩ := (hfr.out u).1 hu
        rw [← h2]; exact h1.bit c hlt
      clear hF hb5 hb4 hX4 hA4 hXr hB hcr
      go_upto_region 9 with fail
      go_cut [80] from 35 to 79 (fun s wx => s = .bool false ∧ w5 = wx)
      case first =>
        as_aux_lemma =>
        cases ok with
        | false =>
          have hF0 : F = 0 := Nat.eq_of_testBit_eq fun u => by
            rw [Nat.zero_testBit]
            cases e : F.testBit u
            · rfl
            · obtain ⟨g', h1, _⟩ := (hfr.out u).1 e
              have := hok3.out.2 ⟨g', h1⟩
              cases this
          subst hF0
          have hF0' : (((0 : Nat) : Int) != 0) = false := by decide
          go_wp2
          go_meet
          exact ⟨rfl, rfl⟩
        | true =>
          obtain ⟨pl, oaL, capL, hL, rfl, hcL, hcelL⟩ := hl3.out rfl
          obtain ⟨gL, oL, rfl, hcl0⟩ := hcelL c hlt
          have hcl := cell_over hcl0 hB5.out
          have hbit : F.testBit (pl c) = true := (hfr.out _).2 ⟨pl, hL.full, rfl⟩
          have hp64 : pl c < 64 := by
            rcases Nat.lt_or_ge (pl c) 64 with q | q
            · exact q
            · rw [Nat.testBit_lt_two_pow (Nat.lt_of_lt_of_le hFl (Nat.pow_le_pow_right (n := 2) (by decide) q))] at hbit; cases hbit
          have hsh := shr_bitT hFl hbit
          have hne : ((F : Int) != 0) = true := by
            rw [ne_cast]
            cases e : F with
            | zero => rw [e] at hbit; simp at hbit
            | succ k => rfl
          have hp0 : ¬ ((pl c : Nat) : Int) < 0 := by omega
          have hp1 : ¬ (63 : Int) < ((pl c : Nat) : Int) := by omega
          have hge : ¬ (Lr.length : Int) ≤ (c : Int) := by omega
          clear hcelL hcl0 hl3 hok3 hL
          generalize pl c = pc at *
          go_wp2
          go_meet
          exact ⟨rfl, rfl⟩
      case rest =>
      obtain ⟨rfl, rfl⟩ := hcut
      clear han cx hx
      go_wp2
      go_loopw [8, 9, 10, 11] (fun p _ _ _ wr => ∃ u : Nat, u ≤ 64 ∧ p = .int .i64 (u : Int) ∧ Hid (Below w3.heap.size w3 wr)) (fun p _ _ _ _ => (64 - intOf p).toNat)
      case atStart => exact ⟨0, by omega, rfl, hB5⟩
      case round =>
        clear hB5 hX5
        obtain ⟨u, hu, rfl, hBu⟩ := hrel
        by_cases hu64 : u < 64
        · have hu64' : (u : Int) < 64 := by omega
          have K1 := hide' (hX3.out.over hBu.out).fewC
          go_wp2_with fail
          refine K1.out.mono ?_
          rintro e w6 ⟨oa6, cap6, rfl, ho6, _, hX6, hb6⟩
          have hB6 : Hid (Below w3.heap.size w3 w6) := hBu.out.trans (hb6.out.mono hBu.out.size)
          clear K1
          obtain ⟨_, e9 | ⟨g6, cap6', cur6, e9, hg6, hgc6, hrest⟩⟩ := id ho6.out
          · exfalso
            have := e9.2
            omega
          cases e9
          have c6 : w6.cell? ⟨g6, c, none⟩ = some (.int .u64 (fn Lr c : Int)) := by
            rw [ho6.out.cellAt c (by simp; omega)]
            simp [cellsU, fn_get hlt]
          have f6 := ho6.out.frozenAt c
          have hsh := shlc u hu64
          have hp64 : 2 ^ u < 18446744073709551616 := Nat.pow_lt_pow_right (a := 2) (m := u) (n := 64) (by decide) hu64
          have hx := fn_lt hX3.out.word c
          have hand := u64_and_nat (fn Lr c) (2 ^ u) hx hp64
          have hone : Hid (∀ W, W.ownsRow w3.heap.size 29 1 (.slice (some ⟨g6, 0, none⟩) Lr.length cap6) Lr.length (cellsU (Lr.set c (fn Lr c &&& 2 ^ u))) → Below w3.heap.size w3 W → RwA W (.slice (some ⟨g6, 0, none⟩) Lr.length cap6) Lr.length (fn (Lr.set c (fn Lr c &&& 2 ^ u)))) := fun W hW hbW => by
            have h := (RowU.of_owns hW).rwa (((hX3.out.tab.over hX3.out.old)).over hbW) (fun z hz => by
              rcases List.mem_or_eq_of_mem_set hz with h | h
              · exact hX3.out.word z h
              · rw [h]; exact Nat.lt_of_le_of_lt Nat.and_le_left hx)
            rwa [List.length_set] at h
          have hset : Hid (fn Lr c &&& 2 ^ u = fn Lr c &&& 2 ^ u) := rfl
          obtain ⟨pu, hpu⟩ : ∃ p, p = 2 ^ u := ⟨_, rfl⟩
          rw [← hpu] at hsh hand hone
          obtain ⟨y, hy⟩ : ∃ y, y = fn Lr c &&& pu := ⟨_, rfl⟩
          rw [← hy] at hand hone
          have hy' := hide' hy
          have hpu' := hide' hpu
          clear hy hpu hset
          go_wp2
          go_region
          have hst := (ho6.out.stored c (.int .u64 (y : Int))).1
          have hB7 : Below w3.heap.size w3 (w6.setCell ⟨g6, c, none⟩ (.int .u64 (y : Int))).drew := (hB6.out.setCell (p := ⟨g6, c, none⟩) (by show w3.heap.size ≤ g6; have := hBu.out.size; omega) _).drew
          have hA7 := hone.out _ (by
            have := owns_lowM (World.ownsRow.drew hst) hBu.out.size
            rw [show (cellsU Lr).set c (.int .u64 (y : Int)) = cellsU (Lr.set c y) by simp [cellsU, List.map_set]] at this
            exact this) hB7
          have KL := hide' (leastB hA7 hn)
          have hB7' := hide' hB7
          clear hA7 hst hone hand hsh c6 f6 ho6 hB7
          go_wp2_with fail
          refine KL.out.mono ?_
          rintro e w8 ⟨can, lv8, rfl, hb8, _, hcan⟩
          have hB8 : Hid (Below w3.heap.size w3 w8) := hB7'.out.trans (hb8.out.mono hB7'.out.size)
          have hiff : can = F.testBit u := by
            have h1 : (∃ g, FullM Lr.length (fn (Lr.set c y)) g) ↔ ∃ g, FullM Lr.length (fn Lr) g ∧ g c = u := by
              rw [hy'.out, hpu'.out]
              constructor
              · rintro ⟨g, hg⟩; exact ⟨g, (full_one hlt g).1 hg⟩
              · rintro ⟨g, hg⟩; exact ⟨g, (full_one hlt g).2 hg⟩
            exact Bool.eq_iff_iff.2 (hcan.out.trans (h1.trans (hfr.out u).symm))
          clear KL hcan hb8 hB7'
          cases hbu : F.testBit u with
          | true =>
            have hsb := shr_bitT hFl hbu
            rw [hbu] at hiff
            subst hiff
            go_wp2
            exact ⟨⟨u + 1, by omega, by go_num, hB8⟩, by simp [intOf]; omega⟩
          | false =>
            have hsb := shr_bitF hFl hbu
            rw [hbu] at hiff
            subst hiff
            go_wp2
            exact ⟨⟨u + 1, by omega, by go_num, hB8⟩, by simp [intOf]; omega⟩
        · obtain rfl : u = 64 := by omega
          go_wp2
          exact ⟨⟨c + 1, by omega, by go_num, hBu⟩, by simp [intOf]; omega⟩
    · obtain rfl : c = Lr.length := by omega
      have K1 := hide' hXr.out.fewC
      go_wp2_with fail
      refine K1.out.mono ?_
      rintro e w4 ⟨oa4, cap4, rfl, _, hA4, hX4, hb4⟩
      clear K1
      go_wp2_with fail
      refine (freeF hA4.out (Lr.length : Int)).mono ?_
      rintro e w5 ⟨F, rfl, hF, hb5⟩
      obtain rfl : F = 0 := FreS.one hF.out.2 (FreS.zero fun h => by omega)
      have hX5 : Hid (Rws w1 w5 (.slice oa2 Lr.length cap2) Lr) := hX4.out.over hb5
      clear hF hb5 hA4 hX4 hb4
      have K2 := hide' hX5.out.fewC
      go_wp2_with fail
      refine K2.out.mono ?_
      rintro e w6 ⟨oa6, cap6, rfl, _, hA6, hX6, hb6⟩
      clear K2 hX5
      go_wp2_with fail
      refine (freeF hA6.out (-1)).mono ?_
      rintro e w7 ⟨F, rfl, hF, hb7⟩
      obtain rfl : F = 0 := FreS.one hF.out.2 (FreS.zero fun h => by omega)
      have hX7 : Hid (Rws w1 w7 (.slice oa2 Lr.length cap2) Lr) := hX6.out.over hb7
      clear hF hb7 hA6 hX6 hb6
      go_wp2_with fail
      refine (wakesM w7 (hX7.out.tab.over hX7.out.old)).mono ?_
      rintro e w8 ⟨rfl, hb8⟩
      have hend : Hid (Below w.heap.size w w8) := (hb1.out.trans (hX7.out.old.mono hb1.out.size)).trans (hb8.mono (Nat.le_trans hb1.out.size hX7.out.old.size))
      clear hb8 hX7
      go_wp2
      go_ret
      exact ⟨rfl, hend.out⟩
end Go.Proofs.YthjgbnehoiafhaaDoor.M
