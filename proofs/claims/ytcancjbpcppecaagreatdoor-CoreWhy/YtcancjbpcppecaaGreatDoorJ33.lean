/- The document's Without. -/
import Derived.Test.YtcancjbpcppecaaGreatDoorJ29
import Derived.Test.YtcancjbpcppecaaGreatDoorJ30
import Derived.Test.YtcancjbpcppecaaGreatDoorJ32
namespace Go.Proofs.YtcancjbpcppecaaGreatDoor.S
open Go.RowKit Go.Shelf
attribute [local irreducible] wpQuiet
theorem or_nextC {k : Nat} (hk : k < 64) : bits .or .u64 ((2 ^ k - 1 : Nat) : Int) ((2 ^ k : Nat) : Int) = ((2 ^ (k + 1) - 1 : Nat) : Int) := by
  have h1 : (2 : Nat) ^ k < 2 ^ 64 := Nat.pow_lt_pow_right (by decide) hk
  have h2 : 0 < 2 ^ k := Nat.pow_pos (by decide)
  rw [u64_or_nat _ _ (by omega) (by omega)]
  congr 1
  rw [Nat.or_comm, show 2 ^ k ||| (2 ^ k - 1) = 2 ^ k * 1 ||| (2 ^ k - 1) by rw [Nat.mul_one], ← Nat.two_pow_add_eq_or_of_lt (by omega), Nat.pow_succ]
  omega
theorem shl_wrapC {k : Nat} (hk : k < 64) : IntKind.u64.wrap ((2 : Int) ^ k) = ((2 ^ k : Nat) : Int) := by
  have : (2 : Nat) ^ k < 18446744073709551616 := Nat.lt_of_lt_of_le (Nat.pow_lt_pow_right (by decide) hk) (Nat.le_refl (2 ^ 64))
  rw [IntKind.wrap_u64, show ((2 : Int) ^ k) = ((2 ^ k : Nat) : Int) by push_cast; rfl]
  generalize (2 : Nat) ^ k = q at *
  omega
/-- What Twin answers, in its box, its rules left out. -/
theorem Fp.twinC {w : World} {P : Pb} {wv fv rv : Value} {V V' : World} {va0 vb0 va vb vc : Value} {L1 : List Nat} {L2 : List Int} (h : Fp w P wv fv rv V va0 vb0 L1 L2) (hb : Below V.heap.size V V') (h1 : V'.ownsRow V.heap.size 33 1 va P.who.length (cellsW P.who)) (h2 : V'.ownsRow V.heap.size 3 1 vb P.fixed.length (cellsI P.fixed)) :
    Fq w P wv fv rv V'.heap.size (V'.alloc (.cells #[.int .i64 P.users, va, vb, vc] 26)) P.users va vb vc va vb (.slice none 0 0) P.who P.fixed [] := by
  have k := h.over hb
  have hA : Below V'.heap.size V' (V'.alloc (.cells #[.int .i64 P.users, va, vb, vc] 26)) := (Below.refl _ V').alloc (Nat.le_refl _) _
  have k2 := k.over hA
  exact ⟨k2.pb, k2.z, QAt.block (heap_new V' _), own_below (own_down h1 h.sz) hA (Nat.le_refl _), own_below (own_down h2 h.sz) hA (Nat.le_refl _), TwS.nil _ _, (fun p hp => by cases hp), k.sz, k2.be⟩
set_option maxRecDepth 100000 in
set_option maxHeartbeats 2000000 in
theorem inD (L : List Int) (v : Value) (x : Int) (w : World) (h : RowI w v L) (hl : L.length ≤ 1000) :
    Calls Tryz.prog 37 #[v, .int .i64 x] w fun e w' => e = .returned (.bool (decide (x ∈ L))) ∧ Below w.heap.size w w' := by
  obtain ⟨oa, cap, rfl, hcp, hc⟩ := h
  have hc' := hide' hc
  clear hc hcp
  go_enter Tryz.func37, Tryz.ntmps37
  go_wp2
  go_loopw [5] (fun p wr => ∃ j : Nat, j ≤ L.length ∧ p = .int .i64 (j : Int) ∧ Hid (x ∉ L.take j) ∧ Hid (Below w.heap.size w wr)) (fun p _ => ((L.length : Int) - intOf p).toNat)
  case atStart => exact ⟨0, Nat.zero_le _, rfl, by show _ ∉ _; simp, Below.refl _ _⟩
  case round =>
    obtain ⟨j, hj, rfl, hE, hB⟩ := hrel
    by_cases hlt : j < L.length
    · have hlt' : (j : Int) < (L.length : Int) := by omega
      obtain ⟨y, hx⟩ : ∃ y, L[j]? = some y := ⟨_, List.getElem?_eq_getElem hlt⟩
      obtain ⟨g, o, rfl, d1⟩ := hc'.out j y hx
      have d2 := M.cell_over d1 hB.out
      have hx' := hide' hx
      clear d1 hx
      by_cases he : y = x
      · subst he
        have hin : Hid (y ∈ L) := List.mem_of_getElem? hx'.out
        clear hE hc'
        go_wp2
        go_ret
        exact ⟨by rw [decide_eq_true hin.out]; rfl, hB.out⟩
      · have hE2 : Hid (x ∉ L.take (j + 1)) := by
          show _ ∉ _
          rw [List.take_add_one, hx'.out]
          simp only [Option.toList_some, List.mem_append, List.mem_singleton]
          rintro (q | q)
          · exact hE.out q
          · exact he q.symm
        have hne : (y == x) = false := by simpa using he
        clear hE
        go_wp2
        exact ⟨⟨j + 1, by omega, by go_num, hE2, hB⟩, by simp [intOf]; omega⟩
    · obtain rfl : j = L.length := by omega
      rw [List.take_length] at hE
      clear hc'
      go_wp2
      go_ret
      exact ⟨by rw [decide_eq_false hE.out]; rfl, hB.out⟩
set_option maxRecDepth 100000 in
set_option maxHeartbeats 16000000 in
theorem withoutD (P : Pb) (wv fv rv vr vs : Value) (R S : List Int) (w : World) (h : PbV w P wv fv rv) (hk : Pok P) (hR : RowI w vr R) (hS : RowI w vs S) (hRl : R.length ≤ 1000) (hSl : S.length ≤ 1000) :
    Calls Tryz.prog 20 #[pbV P wv fv rv, vr, vs] w (WtP w (wtP P R S) (wtN P R S)) := by
  have hX0 : Hid (Wx w P wv fv rv vr vs R S ((w.alloc (.cells #[.int .i64 P.users, wv, fv, rv] 26)).alloc (.cells #[.int .i64 0, .slice none 0 0, .slice none 0 0, .slice none 0 0] 26))) := ⟨Fp.start h, hR.below (Fp.start h).be (Nat.le_refl _), hS.below (Fp.start h).be (Nat.le_refl _)⟩
  have KC : Hid (∀ V, PbV V P wv fv rv → Calls Tryz.prog 18 #[pbV P wv fv rv] V fun e w' => e = .returned (.int .i64 (chkN P : Int)) ∧ Below V.heap.size V w') := fun V hV => rCheckF P wv fv rv V hV hk
  have KT : Hid (∀ V, PbV V P wv fv rv → Calls Tryz.prog 36 #[pbV P wv fv rv] V (TwD V P)) := fun V hV => twinD P wv fv rv V hV hk
  have hs := h.shape
  have hk' := hide' hk
  obtain ⟨ow, cw, of, cf, or, cr, rfl, rfl, rfl⟩ := hs
  have hR0 := hide' hR
  have hS0 := hide' hS
  have h0 := hide' h.rules
  have hpv0 := hide' h
  obtain ⟨oR, cR, rfl, _, _⟩ := hR
  obtain ⟨oS, cS, rfl, _, _⟩ := hS
  unfold pbV at KC KT ⊢
  unfold TwD at KT
  have hrl : P.rules.length ≤ 1000 := hk.r
  have hwl : P.who.length ≤ 1000 := hk.w
  clear h hk
  go_enter Tryz.func20, Tryz.ntmps20
  have q0 := hX0.out.p.pb.c0
  have q1 := hX0.out.p.pb.c1
  have q2 := hX0.out.p.pb.c2
  have q3 := hX0.out.p.pb.c3
  go_wp2_with fail
  clear q0 q1 q2 q3
  generalize (w.alloc (.cells #[.int .i64 P.users, .slice ow P.who.length cw, .slice of P.fixed.length cf, .slice or P.rules.length cr] 26)).alloc (.cells #[.int .i64 0, .slice none 0 0, .slice none 0 0, .slice none 0 0] 26) = w1 at *
  refine (KC.out _ hX0.out.p.pv).mono ?_
  rintro e w2 ⟨rfl, hb2⟩
  have hX2 := hide' (hX0.out.over hb2)
  clear hX0 hb2 KC
  by_cases hC : chkN P = 0
  case neg =>
    as_aux_lemma =>
    have hP : WtE P R S (chkN P) := WtE.mk' (by unfold wtN; rw [if_neg hC]) hC
    have hne : ¬ ((chkN P : Nat) : Int) = 0 := by omega
    have hne2 : (((chkN P : Nat) : Int) != 0) = true := by rw [bne_iff_ne]; exact hne
    generalize chkN P = cc at *
    have f0 := hX2.out.p.z.frz 0
    have y0 := hX2.out.p.z.c0
    have f1 := (hX2.out.p.z.s0C 0).frz 1
    have y1 := (hX2.out.p.z.s0C 0).c1
    have f2 := ((hX2.out.p.z.s0C 0).s1 (.slice none 0 0)).frz 2
    have y2 := ((hX2.out.p.z.s0C 0).s1 (.slice none 0 0)).c2
    have f3 := (((hX2.out.p.z.s0C 0).s1 (.slice none 0 0)).s2 (.slice none 0 0)).frz 3
    have y3 := (((hX2.out.p.z.s0C 0).s1 (.slice none 0 0)).s2 (.slice none 0 0)).c3
    have x0 := ((((hX2.out.p.z.s0C 0).s1 (.slice none 0 0)).s2 (.slice none 0 0)).s3 (.slice none 0 0)).c0
    have x1 := ((((hX2.out.p.z.s0C 0).s1 (.slice none 0 0)).s2 (.slice none 0 0)).s3 (.slice none 0 0)).c1
    have x2 := ((((hX2.out.p.z.s0C 0).s1 (.slice none 0 0)).s2 (.slice none 0 0)).s3 (.slice none 0 0)).c2
    have x3 := ((((hX2.out.p.z.s0C 0).s1 (.slice none 0 0)).s2 (.slice none 0 0)).s3 (.slice none 0 0)).c3
    have hF := hide' (hX2.out.p.resC (.int .i64 0) (.slice none 0 0) (.slice none 0 0) (.slice none 0 0))
    clear hX2 hk' KT
    go_wp2
    refine bodyPost_ret (v := .tuple #[.agg #[.int .i64 0, .slice none 0 0, .slice none 0 0, .slice none 0 0], .int .i64 (cc : Int)]) (by simp [results, Tryz.results20, go_sem, x0, x1, x2, x3]) rfl ?_
    unfold WtP
    rw [hP.n, hP.p]
    exact ⟨_, _, _, _, _, _, _, _, _, rfl, nil_pvC _, hF.out, fun ad n c e => (by cases e), fun W2 _ => nil_pvC W2⟩
  have hne2 : (((chkN P : Nat) : Int) != 0) = false := by rw [hC]; rfl
  have hN : Hid (wtN P R S = if (R.any (outN P.rules.length) || S.any (outN P.who.length)) = true then 1 else 0) := by show _ = _; unfold wtN; rw [if_pos hC]
  obtain ⟨g12, g0, g64, g32, gF, gW, gR⟩ := chkN_zero hC
  have hfl := hide' ((fixB_of gF g64).1)
  obtain ⟨U, hU⟩ := Int.eq_ofNat_of_zero_le g0
  have hUl : U ≤ 64 := by omega
  have hU' := hide' hU
  clear g12 g0 g64 g32 gF gW gR hC hU
  generalize ((chkN P : Nat) : Int) = cc at *
  go_wp2
  go_loopw [9] (fun p wr => ∃ j : Nat, j ≤ R.length ∧ p = .int .i64 (j : Int) ∧ Hid ((R.take j).any (outN P.rules.length) = false) ∧ Hid (Wx w P (.slice ow P.who.length cw) (.slice of P.fixed.length cf) (.slice or P.rules.length cr) (.slice oR R.length cR) (.slice oS S.length cS) R S wr)) (fun p _ => ((R.length : Int) - intOf p).toNat)
  case atStart => exact ⟨0, Nat.zero_le _, rfl, rfl, hX2⟩
  case round =>
    clear hX2
    obtain ⟨j, hj, rfl, hE, hX⟩ := hrel
    by_cases hlt : j < R.length
    · have hlt' : (j : Int) < (R.length : Int) := by omega
      have hj0 : ¬ (j : Int) < 0 := by omega
      obtain ⟨y, hy⟩ : ∃ y, R[j]? = some y := ⟨_, List.getElem?_eq_getElem hlt⟩
      obtain ⟨ga, oo, e1, cy⟩ : ∃ ga oo, oR = some ⟨ga, oo, none⟩ ∧ wr.cell? ⟨ga, oo + j, none⟩ = some (.int .i64 y) := by
        obtain ⟨oa2, cap2, e, _, hc⟩ := hX.out.r
        obtain ⟨ga, oo, e2, e3⟩ := hc j y hy
        injection e with e4
        subst e4
        exact ⟨ga, oo, e2, e3⟩
      subst e1
      have q3 := hX.out.p.pb.c3
      cases hb : outN P.rules.length y
      · as_aux_lemma =>
        have hE2 : Hid ((R.take (j + 1)).any (outN P.rules.length) = false) := by show _ = _; rw [List.take_add_one, hy, List.any_append, hE.out]; simp [hb]
        unfold outN at hb
        rw [Bool.or_eq_false_iff] at hb
        have h1 : ¬ y < 0 := of_decide_eq_false hb.1
        have h2 : ¬ (P.rules.length : Int) ≤ y := of_decide_eq_false hb.2
        have h1d : decide (y < 0) = false := hb.1
        have h2d : decide ((P.rules.length : Int) ≤ y) = false := hb.2
        clear hb hE hy
        go_wp2
        go_quiet (fail)
        go_wp2
        exact ⟨⟨j + 1, by omega, by go_num, hE2, hX.out.over (below_drewS (Below.refl _ wr) _)⟩, by simp [intOf]; omega⟩
      · as_aux_lemma =>
        have hP : WtE P R S 1 := WtE.mk' (by rw [hN.out, if_pos]; rw [Bool.or_eq_true]; exact .inl (List.any_eq_true.2 ⟨y, List.mem_of_getElem? hy, hb⟩)) (by decide)
        have hX' := hide' hX
        unfold outN at hb
        rw [Bool.or_eq_true] at hb
        by_cases h1 : y < 0
        · have h1d : decide (y < 0) = true := decide_eq_true h1
          clear hb hE hy
          go_wp2
          go_quiet (fail)
          have hX4 := hide' (hX.out.over (below_drewS (Below.refl _ wr) nq))
          have f0 := hX4.out.p.z.frz 0
          have y0 := hX4.out.p.z.c0
          have f1 := (hX4.out.p.z.s0C 0).frz 1
          have y1 := (hX4.out.p.z.s0C 0).c1
          have f2 := ((hX4.out.p.z.s0C 0).s1 (.slice none 0 0)).frz 2
          have y2 := ((hX4.out.p.z.s0C 0).s1 (.slice none 0 0)).c2
          have f3 := (((hX4.out.p.z.s0C 0).s1 (.slice none 0 0)).s2 (.slice none 0 0)).frz 3
          have y3 := (((hX4.out.p.z.s0C 0).s1 (.slice none 0 0)).s2 (.slice none 0 0)).c3
          have x0 := ((((hX4.out.p.z.s0C 0).s1 (.slice none 0 0)).s2 (.slice none 0 0)).s3 (.slice none 0 0)).c0
          have x1 := ((((hX4.out.p.z.s0C 0).s1 (.slice none 0 0)).s2 (.slice none 0 0)).s3 (.slice none 0 0)).c1
          have x2 := ((((hX4.out.p.z.s0C 0).s1 (.slice none 0 0)).s2 (.slice none 0 0)).s3 (.slice none 0 0)).c2
          have x3 := ((((hX4.out.p.z.s0C 0).s1 (.slice none 0 0)).s2 (.slice none 0 0)).s3 (.slice none 0 0)).c3
          have hF := hide' (hX4.out.p.resC (.int .i64 0) (.slice none 0 0) (.slice none 0 0) (.slice none 0 0))
          go_wp2
          refine bodyPost_ret (v := .tuple #[.agg #[.int .i64 0, .slice none 0 0, .slice none 0 0, .slice none 0 0], .int .i64 1]) (by simp [results, Tryz.results20, go_sem, x0, x1, x2, x3]) rfl ?_
          unfold WtP
          rw [hP.n, hP.p]
          exact ⟨_, _, _, _, _, _, _, _, _, rfl, nil_pvC _, hF.out, fun ad n c e => (by cases e), fun W2 _ => nil_pvC W2⟩
        · have h1d : decide (y < 0) = false := decide_eq_false h1
          have h2d : decide ((P.rules.length : Int) ≤ y) = true := by rcases hb with q | q; rw [h1d] at q; cases q; exact q
          have h2 : (P.rules.length : Int) ≤ y := of_decide_eq_true h2d
          clear hb hE hy
          go_wp2
          go_quiet (fail)
          have hX4 := hide' (hX.out.over (below_drewS (Below.refl _ wr) nq))
          have f0 := hX4.out.p.z.frz 0
          have y0 := hX4.out.p.z.c0
          have f1 := (hX4.out.p.z.s0C 0).frz 1
          have y1 := (hX4.out.p.z.s0C 0).c1
          have f2 := ((hX4.out.p.z.s0C 0).s1 (.slice none 0 0)).frz 2
          have y2 := ((hX4.out.p.z.s0C 0).s1 (.slice none 0 0)).c2
          have f3 := (((hX4.out.p.z.s0C 0).s1 (.slice none 0 0)).s2 (.slice none 0 0)).frz 3
          have y3 := (((hX4.out.p.z.s0C 0).s1 (.slice none 0 0)).s2 (.slice none 0 0)).c3
          have x0 := ((((hX4.out.p.z.s0C 0).s1 (.slice none 0 0)).s2 (.slice none 0 0)).s3 (.slice none 0 0)).c0
          have x1 := ((((hX4.out.p.z.s0C 0).s1 (.slice none 0 0)).s2 (.slice none 0 0)).s3 (.slice none 0 0)).c1
          have x2 := ((((hX4.out.p.z.s0C 0).s1 (.slice none 0 0)).s2 (.slice none 0 0)).s3 (.slice none 0 0)).c2
          have x3 := ((((hX4.out.p.z.s0C 0).s1 (.slice none 0 0)).s2 (.slice none 0 0)).s3 (.slice none 0 0)).c3
          have hF := hide' (hX4.out.p.resC (.int .i64 0) (.slice none 0 0) (.slice none 0 0) (.slice none 0 0))
          go_wp2
          refine bodyPost_ret (v := .tuple #[.agg #[.int .i64 0, .slice none 0 0, .slice none 0 0, .slice none 0 0], .int .i64 1]) (by simp [results, Tryz.results20, go_sem, x0, x1, x2, x3]) rfl ?_
          unfold WtP
          rw [hP.n, hP.p]
          exact ⟨_, _, _, _, _, _, _, _, _, rfl, nil_pvC _, hF.out, fun ad n c e => (by cases e), fun W2 _ => nil_pvC W2⟩
    · obtain rfl : j = R.length := by omega
      rw [List.take_length] at hE
      clear hlt
      have hER := hE
      have hX3 := hX
      clear hE hX
      go_wp2
      go_loopw [10] (fun p wr => ∃ j : Nat, j ≤ S.length ∧ p = .int .i64 (j : Int) ∧ Hid ((S.take j).any (outN P.who.length) = false) ∧ Hid (Wx w P (.slice ow P.who.length cw) (.slice of P.fixed.length cf) (.slice or P.rules.length cr) (.slice oR R.length cR) (.slice oS S.length cS) R S wr)) (fun p _ => ((S.length : Int) - intOf p).toNat)
      case atStart => exact ⟨0, Nat.zero_le _, rfl, rfl, hX3⟩
      case round =>
        clear hX3
        obtain ⟨j, hj, rfl, hE, hX⟩ := hrel
        by_cases hlt : j < S.length
        · have hlt' : (j : Int) < (S.length : Int) := by omega
          have hj0 : ¬ (j : Int) < 0 := by omega
          obtain ⟨y, hy⟩ : ∃ y, S[j]? = some y := ⟨_, List.getElem?_eq_getElem hlt⟩
          obtain ⟨ga, oo, e1, cy⟩ : ∃ ga oo, oS = some ⟨ga, oo, none⟩ ∧ wr.cell? ⟨ga, oo + j, none⟩ = some (.int .i64 y) := by
            obtain ⟨oa2, cap2, e, _, hc⟩ := hX.out.s
            obtain ⟨ga, oo, e2, e3⟩ := hc j y hy
            injection e with e4
            subst e4
            exact ⟨ga, oo, e2, e3⟩
          subst e1
          have q1 := hX.out.p.pb.c1
          cases hb : outN P.who.length y
          · as_aux_lemma =>
            have hE2 : Hid ((S.take (j + 1)).any (outN P.who.length) = false) := by show _ = _; rw [List.take_add_one, hy, List.any_append, hE.out]; simp [hb]
            unfold outN at hb
            rw [Bool.or_eq_false_iff] at hb
            have h1 : ¬ y < 0 := of_decide_eq_false hb.1
            have h2 : ¬ (P.who.length : Int) ≤ y := of_decide_eq_false hb.2
            have h1d : decide (y < 0) = false := hb.1
            have h2d : decide ((P.who.length : Int) ≤ y) = false := hb.2
            clear hb hE hy
            go_wp2
            go_quiet (fail)
            go_wp2
            exact ⟨⟨j + 1, by omega, by go_num, hE2, hX.out.over (below_drewS (Below.refl _ wr) _)⟩, by simp [intOf]; omega⟩
          · as_aux_lemma =>
            have hP : WtE P R S 1 := WtE.mk' (by rw [hN.out, if_pos]; rw [Bool.or_eq_true]; exact .inr (List.any_eq_true.2 ⟨y, List.mem_of_getElem? hy, hb⟩)) (by decide)
            have hX' := hide' hX
            unfold outN at hb
            rw [Bool.or_eq_true] at hb
            by_cases h1 : y < 0
            · have h1d : decide (y < 0) = true := decide_eq_true h1
              clear hb hE hy
              go_wp2
              go_quiet (fail)
              have hX4 := hide' (hX.out.over (below_drewS (Below.refl _ wr) nq))
              have f0 := hX4.out.p.z.frz 0
              have y0 := hX4.out.p.z.c0
              have f1 := (hX4.out.p.z.s0C 0).frz 1
              have y1 := (hX4.out.p.z.s0C 0).c1
              have f2 := ((hX4.out.p.z.s0C 0).s1 (.slice none 0 0)).frz 2
              have y2 := ((hX4.out.p.z.s0C 0).s1 (.slice none 0 0)).c2
              have f3 := (((hX4.out.p.z.s0C 0).s1 (.slice none 0 0)).s2 (.slice none 0 0)).frz 3
              have y3 := (((hX4.out.p.z.s0C 0).s1 (.slice none 0 0)).s2 (.slice none 0 0)).c3
              have x0 := ((((hX4.out.p.z.s0C 0).s1 (.slice none 0 0)).s2 (.slice none 0 0)).s3 (.slice none 0 0)).c0
              have x1 := ((((hX4.out.p.z.s0C 0).s1 (.slice none 0 0)).s2 (.slice none 0 0)).s3 (.slice none 0 0)).c1
              have x2 := ((((hX4.out.p.z.s0C 0).s1 (.slice none 0 0)).s2 (.slice none 0 0)).s3 (.slice none 0 0)).c2
              have x3 := ((((hX4.out.p.z.s0C 0).s1 (.slice none 0 0)).s2 (.slice none 0 0)).s3 (.slice none 0 0)).c3
              have hF := hide' (hX4.out.p.resC (.int .i64 0) (.slice none 0 0) (.slice none 0 0) (.slice none 0 0))
              go_wp2
              refine bodyPost_ret (v := .tuple #[.agg #[.int .i64 0, .slice none 0 0, .slice none 0 0, .slice none 0 0], .int .i64 1]) (by simp [results, Tryz.results20, go_sem, x0, x1, x2, x3]) rfl ?_
              unfold WtP
              rw [hP.n, hP.p]
              exact ⟨_, _, _, _, _, _, _, _, _, rfl, nil_pvC _, hF.out, fun ad n c e => (by cases e), fun W2 _ => nil_pvC W2⟩
            · have h1d : decide (y < 0) = false := decide_eq_false h1
              have h2d : decide ((P.who.length : Int) ≤ y) = true := by rcases hb with q | q; rw [h1d] at q; cases q; exact q
              have h2 : (P.who.length : Int) ≤ y := of_decide_eq_true h2d
              clear hb hE hy
              go_wp2
              go_quiet (fail)
              have hX4 := hide' (hX.out.over (below_drewS (Below.refl _ wr) nq))
              have f0 := hX4.out.p.z.frz 0
              have y0 := hX4.out.p.z.c0
              have f1 := (hX4.out.p.z.s0C 0).frz 1
              have y1 := (hX4.out.p.z.s0C 0).c1
              have f2 := ((hX4.out.p.z.s0C 0).s1 (.slice none 0 0)).frz 2
              have y2 := ((hX4.out.p.z.s0C 0).s1 (.slice none 0 0)).c2
              have f3 := (((hX4.out.p.z.s0C 0).s1 (.slice none 0 0)).s2 (.slice none 0 0)).frz 3
              have y3 := (((hX4.out.p.z.s0C 0).s1 (.slice none 0 0)).s2 (.slice none 0 0)).c3
              have x0 := ((((hX4.out.p.z.s0C 0).s1 (.slice none 0 0)).s2 (.slice none 0 0)).s3 (.slice none 0 0)).c0
              have x1 := ((((hX4.out.p.z.s0C 0).s1 (.slice none 0 0)).s2 (.slice none 0 0)).s3 (.slice none 0 0)).c1
              have x2 := ((((hX4.out.p.z.s0C 0).s1 (.slice none 0 0)).s2 (.slice none 0 0)).s3 (.slice none 0 0)).c2
              have x3 := ((((hX4.out.p.z.s0C 0).s1 (.slice none 0 0)).s2 (.slice none 0 0)).s3 (.slice none 0 0)).c3
              have hF := hide' (hX4.out.p.resC (.int .i64 0) (.slice none 0 0) (.slice none 0 0) (.slice none 0 0))
              go_wp2
              refine bodyPost_ret (v := .tuple #[.agg #[.int .i64 0, .slice none 0 0, .slice none 0 0, .slice none 0 0], .int .i64 1]) (by simp [results, Tryz.results20, go_sem, x0, x1, x2, x3]) rfl ?_
              unfold WtP
              rw [hP.n, hP.p]
              exact ⟨_, _, _, _, _, _, _, _, _, rfl, nil_pvC _, hF.out, fun ad n c e => (by cases e), fun W2 _ => nil_pvC W2⟩
        · obtain rfl : j = S.length := by omega
          rw [List.take_length] at hE
          clear hlt
          have hN0 : wtN P R S = 0 := by rw [hN.out, hER.out, hE.out]; rfl
          have hNP : WtY P R S (spP P (inC R) (inC S)) := ⟨hN0, by unfold wtP; rw [if_pos hN0]⟩
          clear hN hN0 hER hE
          obtain ⟨Wa, hWa⟩ : ∃ W, W = wr := ⟨_, rfl⟩
          have q0 : wr.cell? ⟨w.heap.size, 0, none⟩ = some (.int .i64 (U : Int)) := by rw [← hU'.out]; exact hX.out.p.pb.c0
          rw [← hWa] at hX q0 ⊢
          clear hWa
          go_upto_block 4 with fail
          go_cut [11, 12] from 67 to 77 (fun av _ wx => av = .int .u64 ((2 ^ U - 1 : Nat) : Int) ∧ wx = Wa)
          case first =>
            as_aux_lemma =>
            clear KT hX h0 hR0 hS0 hk' hfl hNP
            go_wp2
            go_loopw [11, 12] (fun av kv wr => ∃ k : Nat, k ≤ U ∧ kv = .int .i64 (k : Int) ∧ av = .int .u64 ((2 ^ k - 1 : Nat) : Int) ∧ wr = Wa) (fun _ kv _ => ((U : Int) - intOf kv).toNat)
            case atStart => exact ⟨0, Nat.zero_le _, rfl, rfl, rfl⟩
            case round =>
              obtain ⟨k, hk, rfl, rfl, rfl⟩ := hrel
              by_cases hlt : k < U
              · have hlt' : (k : Int) < (U : Int) := by omega
                have hk64 : k < 64 := by omega
                have hk64' : (k : Int) < 64 := by omega
                have hor := or_nextC hk64
                have hsh := shl_wrapC hk64
                obtain ⟨A2, hA2⟩ : ∃ A2 : Nat, A2 = 2 ^ (k + 1) - 1 := ⟨_, rfl⟩
                rw [← hA2] at hor
                have hA2' := hide' hA2
                clear hA2
                generalize (2 ^ k - 1 : Nat) = A1 at *
                generalize (2 ^ k : Nat) = A0 at *
                go_wp2
                exact ⟨⟨k + 1, by omega, by go_num, by rw [hA2'.out], (by first | trivial | rfl)⟩, by simp [intOf]; omega⟩
              · obtain rfl : k = U := by omega
                go_wp2
                go_meet
                exact ⟨rfl, (by first | trivial | rfl)⟩
          case rest =>
          obtain ⟨rfl, rfl⟩ := hcut
          obtain ⟨A, hA⟩ : ∃ A : Nat, A = 2 ^ U - 1 := ⟨_, rfl⟩
          rw [← hA]
          have hA' : Hid (A = allW P.users) := by show _ = _; rw [hA, hU'.out]; unfold allW; rw [Int.toNat_natCast]
          clear hA q0
          have q0 := hX.out.p.pb.c0
          have q1 := hX.out.p.pb.c1
          have q2 := hX.out.p.pb.c2
          have q3 := hX.out.p.pb.c3
          go_wp2_with fail
          refine (KT.out _ hX.out.p.pv).mono ?_
          rintro e w5 ⟨oa, na, ca, ob, nb, cb, oc0, nc0, cc0, E0, rfl, hO, hb5⟩
          have hQ := hide' (hX.out.p.twinC (vc := .slice oc0 nc0 cc0) hb5.out hO.out.1 hO.out.2.1)
          have hna : na = P.who.length := by obtain ⟨_, _, e⟩ := own_shp hO.out.1; injection e
          have hnb : nb = P.fixed.length := by obtain ⟨_, _, e⟩ := own_shp hO.out.2.1; injection e
          subst hna hnb
          clear hO hb5 hX q0 q1 q2 q3
          go_upto_region 20 with fail
          generalize w5.heap.size = gq at *
          generalize w5.alloc (.cells #[.int .i64 P.users, .slice oa P.who.length ca, .slice ob P.fixed.length cb, .slice oc0 nc0 cc0] 26) = w6 at *
          clear w5
          have f3 := hQ.out.qb.frz 3
          have d3 := hQ.out.qb.c3
          have hQ1 := hide' (hQ.out.put (hQ.out.qb.s3 (.slice none 0 0)))
          go_upto_block 6 with fail
          clear hQ f3 d3
          generalize w6.setCell ⟨gq, 3, none⟩ (.slice none 0 0) = w7 at *
          clear w6
          go_cut [14, 15] from 80 to 103 (fun _ _ wx => ∃ oc nc cc E, Hid (E.map Prod.fst = sprR (inC R) P.rules P.rules.length) ∧ Hid (Fq w P (.slice ow P.who.length cw) (.slice of P.fixed.length cf) (.slice or P.rules.length cr) gq wx P.users (.slice oa P.who.length ca) (.slice ob P.fixed.length cb) (.slice oc nc cc) (.slice oa P.who.length ca) (.slice ob P.fixed.length cb) (.slice oc nc cc) P.who P.fixed E))
          case first =>
            as_aux_lemma =>
            clear hNP hS0 hA' hfl
            have KI : Hid (∀ V (i : Nat), Below w.heap.size w V → Calls Tryz.prog 37 #[.slice oR R.length cR, .int .i64 (i : Int)] V fun e w' => e = .returned (.bool (inC R i)) ∧ Below V.heap.size V w') := fun V i hV => inD R _ (i : Int) V (hR0.out.below hV (Nat.le_refl _)) hRl
            go_wp2
            go_loopw [14, 15] (fun kv _ wr => ∃ (j : Nat) (oc : Option Addr) (nc cc : Nat) (E : List (Rl × Value)), j ≤ P.rules.length ∧ kv = .int .i64 (j : Int) ∧ Hid (E.map Prod.fst = sprR (inC R) P.rules j) ∧ Hid (Fq w P (.slice ow P.who.length cw) (.slice of P.fixed.length cf) (.slice or P.rules.length cr) gq wr P.users (.slice oa P.who.length ca) (.slice ob P.fixed.length cb) (.slice oc nc cc) (.slice oa P.who.length ca) (.slice ob P.fixed.length cb) (.slice oc nc cc) P.who P.fixed E)) (fun kv _ _ => ((P.rules.length : Int) - intOf kv).toNat)
            case atStart => exact ⟨0, none, 0, 0, [], Nat.zero_le _, rfl, rfl, hQ1⟩
            case round =>
              clear hQ1
              obtain ⟨j, oc, nc, cc, E, hj, rfl, hE, hQ⟩ := hrel
              have q3 := hQ.out.pb.c3
              by_cases hlt : j < P.rules.length
              · have hlt' : (j : Int) < (P.rules.length : Int) := by omega
                obtain ⟨r, hr⟩ : ∃ r, P.rules[j]? = some r := ⟨_, List.getElem?_eq_getElem hlt⟩
                have hE2 := hide' (sprR_snoc (fr := inC R) hr)
                have hr' := hide' hr
                have KIj := hide' (KI.out wr j hQ.out.be)
                clear hr KI
                cases hfj : inC R j with
                | true =>
                  as_aux_lemma =>
                  rw [hfj] at KIj hE2
                  rw [if_pos rfl, List.append_nil] at hE2
                  go_wp2_with fail
                  refine KIj.out.mono ?_
                  rintro e w8 ⟨rfl, hb8⟩
                  have hQ8 := hide' (hQ.out.over hb8)
                  clear hQ hb8 q3
                  go_wp2
                  exact ⟨⟨j + 1, oc, nc, cc, E, by omega, by go_num, by rw [hE2.out]; exact hE, hQ8⟩, by simp [intOf]; omega⟩
                | false =>
                  as_aux_lemma =>
                  rw [hfj] at KIj hE2
                  rw [if_neg (by decide)] at hE2
                  go_wp2_with fail
                  refine KIj.out.mono ?_
                  rintro e w8 ⟨rfl, hb8⟩
                  have hQ8 := hide' (hQ.out.over hb8)
                  have hz8 := hide' hb8.size
                  have hlb : Hid (∀ gg, (Value.slice ob P.fixed.length cb).ownBlock = some gg → gg < w8.heap.size) := fun gg e => own_lt' hQ8.out.r2 e
                  have hpv8 : Hid (PbV w8 P (.slice ow P.who.length cw) (.slice of P.fixed.length cf) (.slice or P.rules.length cr)) := (hpv0.out).below hQ8.out.be
                  clear hQ hb8 q3 KIj
                  have q0 := hQ8.out.pb.c0
                  have q1 := hQ8.out.pb.c1
                  have q2 := hQ8.out.pb.c2
                  have q3 := hQ8.out.pb.c3
                  go_wp2_with fail
                  refine (KT.out _ hpv8.out).mono ?_
                  rintro e w9 ⟨oa2, na2, ca2, ob2, nb2, cb2, oc2, nc2, cc2, E2, rfl, hO, hb9⟩
                  obtain ⟨o1, o2, o3, o4, o5⟩ := hO.out
                  have hel : E2.length = P.rules.length := by rw [← o4, List.length_map]
                  obtain ⟨p, hp⟩ : ∃ p, E2[j]? = some p := ⟨_, List.getElem?_eq_getElem (by omega)⟩
                  have hp1 : p.1 = r := by
                    have h1 : (E2.map Prod.fst)[j]? = some p.1 := by rw [List.getElem?_map, hp]; rfl
                    rw [o4, hr'.out] at h1
                    exact (Option.some.inj h1).symm
                  have hbA : Hid (Below w8.heap.size w8 (w9.alloc (.cells #[.int .i64 P.users, .slice oa2 na2 ca2, .slice ob2 nb2 cb2, .slice oc2 nc2 cc2] 26))) := hb9.out.alloc hb9.out.size _
                  have hA9 : Below w9.heap.size w9 (w9.alloc (.cells #[.int .i64 P.users, .slice oa2 na2 ca2, .slice ob2 nb2 cb2, .slice oc2 nc2 cc2] 26)) := (Below.refl _ w9).alloc (Nat.le_refl _) _
                  have hin := o3.inner p (List.mem_of_getElem? hp)
                  have hrow := own_below o3.row hA9 (Nat.le_refl _)
                  obtain ⟨g2, hoc2, hnc2⟩ : ∃ g2, oc2 = some ⟨g2, 0, none⟩ ∧ nc2 = P.rules.length := by
                    rcases o3.row.2 with ⟨e, e'⟩ | ⟨g2, cap, cur, e, _⟩
                    · omega
                    · injection e with e2 e3; exact ⟨g2, e2, by omega⟩
                  subst hoc2 hnc2
                  have hsz : j * 3 + 2 < (cellsR E2).length := by rw [cellsR_len]; omega
                  have d0 : (w9.alloc (.cells #[.int .i64 P.users, .slice oa2 na2 ca2, .slice ob2 nb2 cb2, .slice (some ⟨g2, 0, none⟩) P.rules.length cc2] 26)).cell? ⟨g2, j * 3, none⟩ = some (.int .i64 r.kind) := by
                    rw [← hel] at hrow
                    have := hrow.cellAt (j * 3) (by omega)
                    rw [hel] at this
                    rw [this, show j * 3 = j * 3 + 0 by omega, cellsR_at _ _ _ (by decide), hp, ← hp1]; rfl
                  have d1 : (w9.alloc (.cells #[.int .i64 P.users, .slice oa2 na2 ca2, .slice ob2 nb2 cb2, .slice (some ⟨g2, 0, none⟩) P.rules.length cc2] 26)).cell? ⟨g2, j * 3 + 1, none⟩ = some (.int .i64 r.k) := by
                    rw [← hel] at hrow
                    have := hrow.cellAt (j * 3 + 1) (by omega)
                    rw [hel] at this
                    rw [this, cellsR_at _ _ _ (by decide), hp, ← hp1]; rfl
                  have d2 : (w9.alloc (.cells #[.int .i64 P.users, .slice oa2 na2 ca2, .slice ob2 nb2 cb2, .slice (some ⟨g2, 0, none⟩) P.rules.length cc2] 26)).cell? ⟨g2, j * 3 + 2, none⟩ = some p.2 := by
                    rw [← hel] at hrow
                    have := hrow.cellAt (j * 3 + 2) (by omega)
                    rw [hel] at this
                    rw [this, cellsR_at _ _ _ (by decide), hp]; rfl
                  have hQ9 := hide' (hQ8.out.over hbA.out)
                  have hp9 : Hid ((w9.alloc (.cells #[.int .i64 P.users, .slice oa2 na2 ca2, .slice ob2 nb2 cb2, .slice (some ⟨g2, 0, none⟩) P.rules.length cc2] 26)).ownsRow (w.heap.size + 2) 3 1 p.2 r.steps.length (cellsI r.steps)) := by
                    rw [← hp1]
                    exact own_down (own_below hin hA9 (Nat.le_refl _)) hQ8.out.sz
                  have hn2 : Hid (∀ gg, (Value.slice ob P.fixed.length cb).ownBlock = some gg → p.2.ownBlock ≠ some gg) := fun gg h1 h2 => by
                    have q1 := hlb.out gg h1
                    have q2 := own_ge' hin h2
                    omega
                  have hd3 : (w9.alloc (.cells #[.int .i64 P.users, .slice oa2 na2 ca2, .slice ob2 nb2 cb2, .slice (some ⟨g2, 0, none⟩) P.rules.length cc2] 26)).cell? ⟨w9.heap.size, 3, none⟩ = some (.slice (some ⟨g2, 0, none⟩) P.rules.length cc2) := (QAt.block (heap_new w9 (.cells #[.int .i64 P.users, .slice oa2 na2 ca2, .slice ob2 nb2 cb2, .slice (some ⟨g2, 0, none⟩) P.rules.length cc2] 26))).c3
                  have hEl : Hid (E.length ≤ 1000000) := by
                    have := congrArg List.length hE.out
                    rw [List.length_map] at this
                    have h2 := sprR_len (inC R) P.rules j
                    show E.length ≤ 1000000
                    omega
                  obtain ⟨os, cs, hps⟩ := own_shp hin
                  rw [hps] at d2 hp9 hn2
                  have hlen : p.1.steps.length = r.steps.length := by rw [hp1]
                  rw [hlen] at d2 hp9 hn2
                  clear hO o1 o2 o3 o4 o5 hel hp hp1 hin hrow hsz hps hlen hb9 hA9 hbA hQ8 hpv8 q0 q1 q2 q3 hz8 hlb KT hr'
                  go_upto_region 26 with fail
                  generalize w9.heap.size = gt at *
                  generalize w9.alloc (.cells #[.int .i64 P.users, .slice oa2 na2 ca2, .slice ob2 nb2 cb2, .slice (some ⟨g2, 0, none⟩) P.rules.length cc2] 26) = W9 at *
                  clear w9
                  have hQd := hide' (hQ9.out.over (Below.refl _ W9).drew)
                  have hpd : Hid (W9.drew.ownsRow (w.heap.size + 2) 3 1 (.slice os r.steps.length cs) r.steps.length (cellsI r.steps)) := own_below hp9.out (Below.refl _ W9).drew (Nat.le_refl _)
                  have hSd : Hid (∀ V, Below W9.heap.size W9 V → V.cell? ⟨gt, 3, none⟩ = some (.slice (some ⟨g2, 0, none⟩) P.rules.length cc2) ∧ V.cell? ⟨g2, j * 3, none⟩ = some (.int .i64 r.kind) ∧ V.cell? ⟨g2, j * 3 + 1, none⟩ = some (.int .i64 r.k) ∧ V.cell? ⟨g2, j * 3 + 2, none⟩ = some (.slice os r.steps.length cs)) := fun V hV => ⟨M.cell_over hd3 hV, M.cell_over d0 hV, M.cell_over d1 hV, M.cell_over d2 hV⟩
                  have c3 := hQd.out.qb.c3
                  have c3a : (W9.alloc (.cells #[.int .i64 r.kind, .int .i64 r.k, .slice os r.steps.length cs] 35)).cell? ⟨gq, 3, none⟩ = some (.slice oc nc cc) := (hQ9.out.over ((Below.refl _ W9).alloc (Nat.le_refl _) _)).qb.c3
                  obtain ⟨t0, t1, t2, t3⟩ := hSd.out W9.drew (Below.refl _ W9).drew
                  clear hd3 d0 d1 d2 hQ9 hp9 hSd
                  refine wp_region_held_drew (S := (fun _ => True)) (by kernel_rfl) ?_ (fun hHeld => ?_)
                  · trivial
                  refine wpAnyH_take (i := 0) (oi := { dst := some 93, op := Op.fieldAddr 26 (Operand.tmp 13) 3, type := 0, pos := "ref.go:44", after := #[], guard := none }) (v := ?_) rfl (by kernel_rfl) (by kernel_rfl) (by kernel_rfl) (fun _ _ _ h => h) (Or.inl ⟨by rfl, ?_⟩) (by assumption) ?_
                  rotate_left
                  · intro w hSw; (try dsimp only at hSw); go_simp <;> with_reducible rfl
                  simp only [Act.put, List.setIfInBounds_toArray, List.set_cons_zero, List.set_cons_succ]
                  refine wpAnyH_take (i := 2) (oi := { dst := some 95, op := Op.fieldAddr 26 (Operand.tmp 15) 3, type := 0, pos := "ref.go:44", after := #[], guard := none }) (v := ?_) rfl (by kernel_rfl) (by kernel_rfl) (by kernel_rfl) (fun _ _ _ h => h) (Or.inl ⟨by rfl, ?_⟩) (by assumption) ?_
                  rotate_left
                  · intro w hSw; (try dsimp only at hSw); go_simp <;> with_reducible rfl
                  simp only [Act.put, List.setIfInBounds_toArray, List.set_cons_zero, List.set_cons_succ]
                  refine wpAnyH_take (i := 4) (oi := { dst := some 97, op := Op.move (Operand.tmp 14), type := 3, pos := "ref.go:44", after := #[], guard := none }) (v := ?_) rfl (by kernel_rfl) (by kernel_rfl) (by kernel_rfl) (fun _ _ _ h => h) (Or.inl ⟨by rfl, ?_⟩) (by assumption) ?_
                  rotate_left
                  · intro w hSw; (try dsimp only at hSw); go_simp <;> with_reducible rfl
                  simp only [Act.put, List.setIfInBounds_toArray, List.set_cons_zero, List.set_cons_succ]
                  refine wpAnyH_ready (rs := [1, 3]) (by kernel_rfl) (by simp) ?_
                  refine AllReadyH.cons (o := { dst := some 94, op := Op.load 24 (Operand.tmp 93), type := 24, pos := "ref.go:44", after := #[{ on := 0, ground := Ground.data }], guard := none }) rfl (fun K hK => ?_) ?_
                  · skip
                    go_simp
                    refine hK.out _ _ ?_ (fun hHeld => ?_)
                    · trivial
                    clear hK K
                    try simp only [Act.put, List.setIfInBounds_toArray, List.set_cons_zero, List.set_cons_succ]
                    refine wpAnyH_ready (rs := [3]) (by kernel_rfl) (by simp) ?_
                    refine AllReadyH.cons (o := { dst := some 96, op := Op.load 24 (Operand.tmp 95), type := 24, pos := "ref.go:44", after := #[{ on := 2, ground := Ground.data }], guard := none }) rfl (fun K hK => ?_) AllReadyH.nil
                    go_simp
                    refine hK.out _ _ ?_ (fun hHeld => ?_)
                    · trivial
                    clear hK K
                    try simp only [Act.put, List.setIfInBounds_toArray, List.set_cons_zero, List.set_cons_succ]
                    refine wpAnyH_take (i := 5) (oi := { dst := some 98, op := Op.indexAddr 24 (Operand.tmp 96) (Operand.tmp 97), type := 0, pos := "ref.go:44", after := #[{ on := 3, ground := Ground.data }, { on := 4, ground := Ground.data }], guard := none }) (v := ?_) rfl (by kernel_rfl) (by kernel_rfl) (by kernel_rfl) (fun _ _ _ h => h) (Or.inl ⟨by rfl, ?_⟩) (by assumption) ?_
                    rotate_left
                    · intro w hSw; (try dsimp only at hSw); go_simp <;> with_reducible rfl
                    simp only [Act.put, List.setIfInBounds_toArray, List.set_cons_zero, List.set_cons_succ]
                    refine wpAnyH_ready (rs := [6]) (by kernel_rfl) (by simp) ?_
                    refine AllReadyH.cons (o := { dst := some 99, op := Op.load 35 (Operand.tmp 98), type := 35, pos := "ref.go:44", after := #[{ on := 5, ground := Ground.data }], guard := none }) rfl (fun K hK => ?_) AllReadyH.nil
                    go_simp
                    refine hK.out _ _ ?_ (fun hHeld => ?_)
                    · trivial
                    clear hK K
                    try simp only [Act.put, List.setIfInBounds_toArray, List.set_cons_zero, List.set_cons_succ]
                    refine wpAnyH_ready (rs := [7]) (by kernel_rfl) (by simp) ?_
                    refine AllReadyH.cons (o := { dst := some 100, op := Op.buildSlice 24 1 #[(0, Operand.tmp 99)], type := 24, pos := "ref.go:44", after := #[{ on := 6, ground := Ground.data }], guard := none }) rfl (fun K hK => ?_) AllReadyH.nil
                    go_simp
                    refine hK.out _ _ ?_ (fun hHeld => ?_)
                    · trivial
                    clear hK K
                    try simp only [Act.put, List.setIfInBounds_toArray, List.set_cons_zero, List.set_cons_succ]
                    refine wpAnyH_ready (rs := [8]) (by kernel_rfl) (by simp) ?_
                    refine AllReadyH.cons (o := { dst := some 101, op := Op.call { callee := Callee.builtin Builtin.append, args := #[Operand.tmp 94, Operand.tmp 100], argTypes := #[24, 24] }, type := 24, pos := "ref.go:44", after := #[{ on := 1, ground := Ground.data }, { on := 7, ground := Ground.data }], guard := none }) rfl (fun K hK => ?_) AllReadyH.nil
                    rw [if_pos (by rfl)]
                    refine Fq.wapp3 _ _ hQd.out (r, .slice os r.steps.length cs) hpd.out hn2.out rfl rfl rfl hEl.out ?_; intro oD nD cD wD hD; have hD' := hide' hD; have fD := hD.qb.frz 3; have dD := hD.qb.c3; clear hD; (try dsimp only)
                    refine hK.out _ _ ?_ (fun hHeld => ?_)
                    · trivial
                    clear hK K
                    try simp only [Act.put, List.setIfInBounds_toArray, List.set_cons_zero, List.set_cons_succ]
                    refine wpAnyH_take (i := 9) (oi := { dst := some 102, op := Op.fieldAddr 26 (Operand.tmp 13) 3, type := 0, pos := "ref.go:44", after := #[{ on := 0, ground := Ground.phase }, { on := 1, ground := Ground.phase }, { on := 2, ground := Ground.phase }, { on := 3, ground := Ground.phase }, { on := 4, ground := Ground.phase }, { on := 5, ground := Ground.phase }, { on := 6, ground := Ground.phase }, { on := 7, ground := Ground.phase }, { on := 8, ground := Ground.phase }], guard := none }) (v := ?_) rfl (by kernel_rfl) (by kernel_rfl) (by kernel_rfl) (fun _ _ _ h => h) (Or.inl ⟨by rfl, ?_⟩) (by assumption) ?_
                    rotate_left
                    · intro w hSw; (try dsimp only at hSw); go_simp <;> with_reducible rfl
                    simp only [Act.put, List.setIfInBounds_toArray, List.set_cons_zero, List.set_cons_succ]
                    refine wpAnyH_ready (rs := [10]) (by kernel_rfl) (by simp) ?_
                    refine AllReadyH.cons (o := { dst := none, op := Op.store 24 (Operand.tmp 102) (Operand.tmp 101), type := 0, pos := "ref.go:44", after := #[{ on := 9, ground := Ground.data }, { on := 8, ground := Ground.data }, { on := 8, ground := Ground.chain }, { on := 0, ground := Ground.phase }, { on := 1, ground := Ground.phase }, { on := 2, ground := Ground.phase }, { on := 3, ground := Ground.phase }, { on := 4, ground := Ground.phase }, { on := 5, ground := Ground.phase }, { on := 6, ground := Ground.phase }, { on := 7, ground := Ground.phase }, { on := 8, ground := Ground.phase }], guard := none }) rfl (fun K hK => ?_) AllReadyH.nil
                    go_simp
                    refine hK.out _ _ ?_ (fun hHeld => ?_)
                    · trivial
                    clear hK K
                    try simp only [Act.put, List.setIfInBounds_toArray, List.set_cons_zero, List.set_cons_succ]
                    refine wpAnyH_done (by kernel_rfl) ?_ _
                    skip
                    have hE9 := hide' (hD'.out.put (hD'.out.qb.s3 (.slice oD nD cD)))
                    clear hD'
                    go_wp2
                    exact ⟨⟨j + 1, oD, nD, cD, _, by omega, by go_num, by rw [List.map_append, hE.out, hE2.out]; rfl, hE9⟩, by simp [intOf]; omega⟩
                  refine AllReadyH.cons (o := { dst := some 96, op := Op.load 24 (Operand.tmp 95), type := 24, pos := "ref.go:44", after := #[{ on := 2, ground := Ground.data }], guard := none }) rfl (fun K hK => ?_) AllReadyH.nil
                  go_simp
                  refine hK.out _ _ ?_ (fun hHeld => ?_)
                  · trivial
                  clear hK K
                  try simp only [Act.put, List.setIfInBounds_toArray, List.set_cons_zero, List.set_cons_succ]
                  refine wpAnyH_take (i := 5) (oi := { dst := some 98, op := Op.indexAddr 24 (Operand.tmp 96) (Operand.tmp 97), type := 0, pos := "ref.go:44", after := #[{ on := 3, ground := Ground.data }, { on := 4, ground := Ground.data }], guard := none }) (v := ?_) rfl (by kernel_rfl) (by kernel_rfl) (by kernel_rfl) (fun _ _ _ h => h) (Or.inl ⟨by rfl, ?_⟩) (by assumption) ?_
                  rotate_left
                  · intro w hSw; (try dsimp only at hSw); go_simp <;> with_reducible rfl
                  simp only [Act.put, List.setIfInBounds_toArray, List.set_cons_zero, List.set_cons_succ]
                  refine wpAnyH_ready (rs := [1, 6]) (by kernel_rfl) (by simp) ?_
                  refine AllReadyH.cons (o := { dst := some 94, op := Op.load 24 (Operand.tmp 93), type := 24, pos := "ref.go:44", after := #[{ on := 0, ground := Ground.data }], guard := none }) rfl (fun K hK => ?_) ?_
                  · skip
                    go_simp
                    refine hK.out _ _ ?_ (fun hHeld => ?_)
                    · trivial
                    clear hK K
                    try simp only [Act.put, List.setIfInBounds_toArray, List.set_cons_zero, List.set_cons_succ]
                    refine wpAnyH_ready (rs := [6]) (by kernel_rfl) (by simp) ?_
                    refine AllReadyH.cons (o := { dst := some 99, op := Op.load 35 (Operand.tmp 98), type := 35, pos := "ref.go:44", after := #[{ on := 5, ground := Ground.data }], guard := none }) rfl (fun K hK => ?_) AllReadyH.nil
                    go_simp
                    refine hK.out _ _ ?_ (fun hHeld => ?_)
                    · trivial
                    clear hK K
                    try simp only [Act.put, List.setIfInBounds_toArray, List.set_cons_zero, List.set_cons_succ]
                    refine wpAnyH_ready (rs := [7]) (by kernel_rfl) (by simp) ?_
                    refine AllReadyH.cons (o := { dst := some 100, op := Op.buildSlice 24 1 #[(0, Operand.tmp 99)], type := 24, pos := "ref.go:44", after := #[{ on := 6, ground := Ground.data }], guard := none }) rfl (fun K hK => ?_) AllReadyH.nil
                    go_simp
                    refine hK.out _ _ ?_ (fun hHeld => ?_)
                    · trivial
                    clear hK K
                    try simp only [Act.put, List.setIfInBounds_toArray, List.set_cons_zero, List.set_cons_succ]
                    refine wpAnyH_ready (rs := [8]) (by kernel_rfl) (by simp) ?_
                    refine AllReadyH.cons (o := { dst := some 101, op := Op.call { callee := Callee.builtin Builtin.append, args := #[Operand.tmp 94, Operand.tmp 100], argTypes := #[24, 24] }, type := 24, pos := "ref.go:44", after := #[{ on := 1, ground := Ground.data }, { on := 7, ground := Ground.data }], guard := none }) rfl (fun K hK => ?_) AllReadyH.nil
                    rw [if_pos (by rfl)]
                    refine Fq.wapp3 _ _ hQd.out (r, .slice os r.steps.length cs) hpd.out hn2.out rfl rfl rfl hEl.out ?_; intro oD nD cD wD hD; have hD' := hide' hD; have fD := hD.qb.frz 3; have dD := hD.qb.c3; clear hD; (try dsimp only)
                    refine hK.out _ _ ?_ (fun hHeld => ?_)
                    · trivial
                    clear hK K
                    try simp only [Act.put, List.setIfInBounds_toArray, List.set_cons_zero, List.set_cons_succ]
                    refine wpAnyH_take (i := 9) (oi := { dst := some 102, op := Op.fieldAddr 26 (Operand.tmp 13) 3, type := 0, pos := "ref.go:44", after := #[{ on := 0, ground := Ground.phase }, { on := 1, ground := Ground.phase }, { on := 2, ground := Ground.phase }, { on := 3, ground := Ground.phase }, { on := 4, ground := Ground.phase }, { on := 5, ground := Ground.phase }, { on := 6, ground := Ground.phase }, { on := 7, ground := Ground.phase }, { on := 8, ground := Ground.phase }], guard := none }) (v := ?_) rfl (by kernel_rfl) (by kernel_rfl) (by kernel_rfl) (fun _ _ _ h => h) (Or.inl ⟨by rfl, ?_⟩) (by assumption) ?_
                    rotate_left
                    · intro w hSw; (try dsimp only at hSw); go_simp <;> with_reducible rfl
                    simp only [Act.put, List.setIfInBounds_toArray, List.set_cons_zero, List.set_cons_succ]
                    refine wpAnyH_ready (rs := [10]) (by kernel_rfl) (by simp) ?_
                    refine AllReadyH.cons (o := { dst := none, op := Op.store 24 (Operand.tmp 102) (Operand.tmp 101), type := 0, pos := "ref.go:44", after := #[{ on := 9, ground := Ground.data }, { on := 8, ground := Ground.data }, { on := 8, ground := Ground.chain }, { on := 0, ground := Ground.phase }, { on := 1, ground := Ground.phase }, { on := 2, ground := Ground.phase }, { on := 3, ground := Ground.phase }, { on := 4, ground := Ground.phase }, { on := 5, ground := Ground.phase }, { on := 6, ground := Ground.phase }, { on := 7, ground := Ground.phase }, { on := 8, ground := Ground.phase }], guard := none }) rfl (fun K hK => ?_) AllReadyH.nil
                    go_simp
                    refine hK.out _ _ ?_ (fun hHeld => ?_)
                    · trivial
                    clear hK K
                    try simp only [Act.put, List.setIfInBounds_toArray, List.set_cons_zero, List.set_cons_succ]
                    refine wpAnyH_done (by kernel_rfl) ?_ _
                    skip
                    have hE9 := hide' (hD'.out.put (hD'.out.qb.s3 (.slice oD nD cD)))
                    clear hD'
                    go_wp2
                    exact ⟨⟨j + 1, oD, nD, cD, _, by omega, by go_num, by rw [List.map_append, hE.out, hE2.out]; rfl, hE9⟩, by simp [intOf]; omega⟩
                  refine AllReadyH.cons (o := { dst := some 99, op := Op.load 35 (Operand.tmp 98), type := 35, pos := "ref.go:44", after := #[{ on := 5, ground := Ground.data }], guard := none }) rfl (fun K hK => ?_) AllReadyH.nil
                  go_simp
                  refine hK.out _ _ ?_ (fun hHeld => ?_)
                  · trivial
                  clear hK K
                  try simp only [Act.put, List.setIfInBounds_toArray, List.set_cons_zero, List.set_cons_succ]
                  refine wpAnyH_ready (rs := [1, 7]) (by kernel_rfl) (by simp) ?_
                  refine AllReadyH.cons (o := { dst := some 94, op := Op.load 24 (Operand.tmp 93), type := 24, pos := "ref.go:44", after := #[{ on := 0, ground := Ground.data }], guard := none }) rfl (fun K hK => ?_) ?_
                  · skip
                    go_simp
                    refine hK.out _ _ ?_ (fun hHeld => ?_)
                    · trivial
                    clear hK K
                    try simp only [Act.put, List.setIfInBounds_toArray, List.set_cons_zero, List.set_cons_succ]
                    refine wpAnyH_ready (rs := [7]) (by kernel_rfl) (by simp) ?_
                    refine AllReadyH.cons (o := { dst := some 100, op := Op.buildSlice 24 1 #[(0, Operand.tmp 99)], type := 24, pos := "ref.go:44", after := #[{ on := 6, ground := Ground.data }], guard := none }) rfl (fun K hK => ?_) AllReadyH.nil
                    go_simp
                    refine hK.out _ _ ?_ (fun hHeld => ?_)
                    · trivial
                    clear hK K
                    try simp only [Act.put, List.setIfInBounds_toArray, List.set_cons_zero, List.set_cons_succ]
                    refine wpAnyH_ready (rs := [8]) (by kernel_rfl) (by simp) ?_
                    refine AllReadyH.cons (o := { dst := some 101, op := Op.call { callee := Callee.builtin Builtin.append, args := #[Operand.tmp 94, Operand.tmp 100], argTypes := #[24, 24] }, type := 24, pos := "ref.go:44", after := #[{ on := 1, ground := Ground.data }, { on := 7, ground := Ground.data }], guard := none }) rfl (fun K hK => ?_) AllReadyH.nil
                    rw [if_pos (by rfl)]
                    refine Fq.wapp3 _ _ hQd.out (r, .slice os r.steps.length cs) hpd.out hn2.out rfl rfl rfl hEl.out ?_; intro oD nD cD wD hD; have hD' := hide' hD; have fD := hD.qb.frz 3; have dD := hD.qb.c3; clear hD; (try dsimp only)
                    refine hK.out _ _ ?_ (fun hHeld => ?_)
                    · trivial
                    clear hK K
                    try simp only [Act.put, List.setIfInBounds_toArray, List.set_cons_zero, List.set_cons_succ]
                    refine wpAnyH_take (i := 9) (oi := { dst := some 102, op := Op.fieldAddr 26 (Operand.tmp 13) 3, type := 0, pos := "ref.go:44", after := #[{ on := 0, ground := Ground.phase }, { on := 1, ground := Ground.phase }, { on := 2, ground := Ground.phase }, { on := 3, ground := Ground.phase }, { on := 4, ground := Ground.phase }, { on := 5, ground := Ground.phase }, { on := 6, ground := Ground.phase }, { on := 7, ground := Ground.phase }, { on := 8, ground := Ground.phase }], guard := none }) (v := ?_) rfl (by kernel_rfl) (by kernel_rfl) (by kernel_rfl) (fun _ _ _ h => h) (Or.inl ⟨by rfl, ?_⟩) (by assumption) ?_
                    rotate_left
                    · intro w hSw; (try dsimp only at hSw); go_simp <;> with_reducible rfl
                    simp only [Act.put, List.setIfInBounds_toArray, List.set_cons_zero, List.set_cons_succ]
                    refine wpAnyH_ready (rs := [10]) (by kernel_rfl) (by simp) ?_
                    refine AllReadyH.cons (o := { dst := none, op := Op.store 24 (Operand.tmp 102) (Operand.tmp 101), type := 0, pos := "ref.go:44", after := #[{ on := 9, ground := Ground.data }, { on := 8, ground := Ground.data }, { on := 8, ground := Ground.chain }, { on := 0, ground := Ground.phase }, { on := 1, ground := Ground.phase }, { on := 2, ground := Ground.phase }, { on := 3, ground := Ground.phase }, { on := 4, ground := Ground.phase }, { on := 5, ground := Ground.phase }, { on := 6, ground := Ground.phase }, { on := 7, ground := Ground.phase }, { on := 8, ground := Ground.phase }], guard := none }) rfl (fun K hK => ?_) AllReadyH.nil
                    go_simp
                    refine hK.out _ _ ?_ (fun hHeld => ?_)
                    · trivial
                    clear hK K
                    try simp only [Act.put, List.setIfInBounds_toArray, List.set_cons_zero, List.set_cons_succ]
                    refine wpAnyH_done (by kernel_rfl) ?_ _
                    skip
                    have hE9 := hide' (hD'.out.put (hD'.out.qb.s3 (.slice oD nD cD)))
                    clear hD'
                    go_wp2
                    exact ⟨⟨j + 1, oD, nD, cD, _, by omega, by go_num, by rw [List.map_append, hE.out, hE2.out]; rfl, hE9⟩, by simp [intOf]; omega⟩
                  refine AllReadyH.cons (o := { dst := some 100, op := Op.buildSlice 24 1 #[(0, Operand.tmp 99)], type := 24, pos := "ref.go:44", after := #[{ on := 6, ground := Ground.data }], guard := none }) rfl (fun K hK => ?_) AllReadyH.nil
                  go_simp
                  refine hK.out _ _ ?_ (fun hHeld => ?_)
                  · trivial
                  clear hK K
                  try simp only [Act.put, List.setIfInBounds_toArray, List.set_cons_zero, List.set_cons_succ]
                  refine wpAnyH_ready (rs := [1]) (by kernel_rfl) (by simp) ?_
                  refine AllReadyH.cons (o := { dst := some 94, op := Op.load 24 (Operand.tmp 93), type := 24, pos := "ref.go:44", after := #[{ on := 0, ground := Ground.data }], guard := none }) rfl (fun K hK => ?_) AllReadyH.nil
                  go_simp
                  refine hK.out _ _ ?_ (fun hHeld => ?_)
                  · trivial
                  clear hK K
                  try simp only [Act.put, List.setIfInBounds_toArray, List.set_cons_zero, List.set_cons_succ]
                  refine wpAnyH_ready (rs := [8]) (by kernel_rfl) (by simp) ?_
                  refine AllReadyH.cons (o := { dst := some 101, op := Op.call { callee := Callee.builtin Builtin.append, args := #[Operand.tmp 94, Operand.tmp 100], argTypes := #[24, 24] }, type := 24, pos := "ref.go:44", after := #[{ on := 1, ground := Ground.data }, { on := 7, ground := Ground.data }], guard := none }) rfl (fun K hK => ?_) AllReadyH.nil
                  rw [if_pos (by rfl)]
                  refine Fq.wapp3 _ _ hQd.out (r, .slice os r.steps.length cs) hpd.out hn2.out rfl rfl rfl hEl.out ?_; intro oD nD cD wD hD; have hD' := hide' hD; have fD := hD.qb.frz 3; have dD := hD.qb.c3; clear hD; (try dsimp only)
                  refine hK.out _ _ ?_ (fun hHeld => ?_)
                  · trivial
                  clear hK K
                  try simp only [Act.put, List.setIfInBounds_toArray, List.set_cons_zero, List.set_cons_succ]
                  refine wpAnyH_take (i := 9) (oi := { dst := some 102, op := Op.fieldAddr 26 (Operand.tmp 13) 3, type := 0, pos := "ref.go:44", after := #[{ on := 0, ground := Ground.phase }, { on := 1, ground := Ground.phase }, { on := 2, ground := Ground.phase }, { on := 3, ground := Ground.phase }, { on := 4, ground := Ground.phase }, { on := 5, ground := Ground.phase }, { on := 6, ground := Ground.phase }, { on := 7, ground := Ground.phase }, { on := 8, ground := Ground.phase }], guard := none }) (v := ?_) rfl (by kernel_rfl) (by kernel_rfl) (by kernel_rfl) (fun _ _ _ h => h) (Or.inl ⟨by rfl, ?_⟩) (by assumption) ?_
                  rotate_left
                  · intro w hSw; (try dsimp only at hSw); go_simp <;> with_reducible rfl
                  simp only [Act.put, List.setIfInBounds_toArray, List.set_cons_zero, List.set_cons_succ]
                  refine wpAnyH_ready (rs := [10]) (by kernel_rfl) (by simp) ?_
                  refine AllReadyH.cons (o := { dst := none, op := Op.store 24 (Operand.tmp 102) (Operand.tmp 101), type := 0, pos := "ref.go:44", after := #[{ on := 9, ground := Ground.data }, { on := 8, ground := Ground.data }, { on := 8, ground := Ground.chain }, { on := 0, ground := Ground.phase }, { on := 1, ground := Ground.phase }, { on := 2, ground := Ground.phase }, { on := 3, ground := Ground.phase }, { on := 4, ground := Ground.phase }, { on := 5, ground := Ground.phase }, { on := 6, ground := Ground.phase }, { on := 7, ground := Ground.phase }, { on := 8, ground := Ground.phase }], guard := none }) rfl (fun K hK => ?_) AllReadyH.nil
                  go_simp
                  refine hK.out _ _ ?_ (fun hHeld => ?_)
                  · trivial
                  clear hK K
                  try simp only [Act.put, List.setIfInBounds_toArray, List.set_cons_zero, List.set_cons_succ]
                  refine wpAnyH_done (by kernel_rfl) ?_ _
                  skip
                  have hE9 := hide' (hD'.out.put (hD'.out.qb.s3 (.slice oD nD cD)))
                  clear hD'
                  go_wp2
                  exact ⟨⟨j + 1, oD, nD, cD, _, by omega, by go_num, by rw [List.map_append, hE.out, hE2.out]; rfl, hE9⟩, by simp [intOf]; omega⟩
              · as_aux_lemma =>
                obtain rfl : j = P.rules.length := by omega
                go_wp2
                go_meet
                exact ⟨oc, nc, cc, E, hE, hQ⟩
          case rest =>
          clear hQ1 KT h0 hpv0
          obtain ⟨oc, nc, cc, E, hE, hQ⟩ := hcut
          go_upto_block 8 with fail
          go_cut [16] from 103 to 122 (fun _ wx => Hid (Fq w P (.slice ow P.who.length cw) (.slice of P.fixed.length cf) (.slice or P.rules.length cr) gq wx P.users (.slice oa P.who.length ca) (.slice ob P.fixed.length cb) (.slice oc nc cc) (.slice oa P.who.length ca) (.slice ob P.fixed.length cb) (.slice oc nc cc) (sprW (inC S) (allW P.users) P.who P.who.length) (sprW (inC S) (-1) P.fixed P.who.length) E))
          case first =>
            as_aux_lemma =>
            clear hNP hE
            have KI : Hid (∀ V (i : Nat), Below w.heap.size w V → Calls Tryz.prog 37 #[.slice oS S.length cS, .int .i64 (i : Int)] V fun e w' => e = .returned (.bool (inC S i)) ∧ Below V.heap.size V w') := fun V i hV => inD S _ (i : Int) V (hS0.out.below hV (Nat.le_refl _)) hSl
            go_wp2
            go_loopw [16] (fun kv wr => ∃ j : Nat, j ≤ P.who.length ∧ kv = .int .i64 (j : Int) ∧ Hid (Fq w P (.slice ow P.who.length cw) (.slice of P.fixed.length cf) (.slice or P.rules.length cr) gq wr P.users (.slice oa P.who.length ca) (.slice ob P.fixed.length cb) (.slice oc nc cc) (.slice oa P.who.length ca) (.slice ob P.fixed.length cb) (.slice oc nc cc) (sprW (inC S) (allW P.users) P.who j) (sprW (inC S) (-1) P.fixed j) E)) (fun kv _ => ((P.who.length : Int) - intOf kv).toNat)
            case atStart => exact ⟨0, Nat.zero_le _, rfl, hQ⟩
            case round =>
              clear hQ
              obtain ⟨j, hj, rfl, hQ⟩ := hrel
              have q1 := hQ.out.pb.c1
              by_cases hlt : j < P.who.length
              · have hlt' : (j : Int) < (P.who.length : Int) := by omega
                have hj0 : ¬ (j : Int) < 0 := by omega
                have hltF : (j : Int) < (P.fixed.length : Int) := by have := hfl.out; omega
                have KIj := hide' (KI.out wr j hQ.out.be)
                have l1 := sprW_len (inC S) (allW P.users) P.who j
                have l2 := sprW_len (inC S) (-1) P.fixed j
                cases hfj : inC S j with
                | false =>
                  as_aux_lemma =>
                  have e1 : Hid (sprW (inC S) (allW P.users) P.who (j + 1) = sprW (inC S) (allW P.users) P.who j) := by unfold Hid; rw [sprW, if_neg (by rw [hfj]; decide)]
                  have e2 : Hid (sprW (inC S) (-1) P.fixed (j + 1) = sprW (inC S) (-1) P.fixed j) := by unfold Hid; rw [sprW, if_neg (by rw [hfj]; decide)]
                  rw [hfj] at KIj
                  clear l1 l2
                  go_wp2_with fail
                  refine KIj.out.mono ?_
                  rintro e w8 ⟨rfl, hb8⟩
                  have hQ8 := hide' (hQ.out.over hb8)
                  clear hQ hb8 q1
                  go_wp2
                  exact ⟨⟨j + 1, by omega, by go_num, by rw [e1.out, e2.out]; exact hQ8⟩, by simp [intOf]; omega⟩
                | true =>
                  as_aux_lemma =>
                  have e1 : Hid (sprW (inC S) (allW P.users) P.who (j + 1) = (sprW (inC S) (allW P.users) P.who j).set j A) := by unfold Hid; rw [hA'.out, sprW, if_pos hfj]
                  have e2 : Hid (sprW (inC S) (-1) P.fixed (j + 1) = (sprW (inC S) (-1) P.fixed j).set j (-1)) := by unfold Hid; rw [sprW, if_pos hfj]
                  rw [hfj] at KIj
                  obtain ⟨gw, hgw⟩ : ∃ gw, oa = some ⟨gw, 0, none⟩ := by
                    rcases hQ.out.r1.2 with ⟨e, e'⟩ | ⟨gw, cap, cur, e, _⟩
                    · omega
                    · injection e with e2; exact ⟨gw, e2⟩
                  obtain ⟨gf, hgf⟩ : ∃ gf, ob = some ⟨gf, 0, none⟩ := by
                    rcases hQ.out.r2.2 with ⟨e, e'⟩ | ⟨gf, cap, cur, e, _⟩
                    · have := hfl.out; omega
                    · injection e with e2; exact ⟨gf, e2⟩
                  subst hgw hgf
                  generalize hM1 : sprW (inC S) (allW P.users) P.who j = M1 at *
                  generalize hM2 : sprW (inC S) (-1) P.fixed j = M2 at *
                  clear hM1 hM2
                  go_wp2_with fail
                  refine KIj.out.mono ?_
                  rintro e w8 ⟨rfl, hb8⟩
                  have hQ8 := hide' (hQ.out.over hb8)
                  rw [← l1, ← l2] at hQ8
                  clear hQ hb8 q1 KIj
                  obtain ⟨y1, hy1⟩ : ∃ y, M1[j]? = some y := ⟨_, List.getElem?_eq_getElem (by omega)⟩
                  obtain ⟨y2, hy2⟩ : ∃ y, M2[j]? = some y := ⟨_, List.getElem?_eq_getElem (by have := hfl.out; omega)⟩
                  have hQa := hide' (hQ8.out.setW j A)
                  have hQb := hide' (by have k := hQa.out; rw [show M1.length = (M1.set j A).length by rw [List.length_set]] at k; exact k.setF j (-1))
                  have c1 := hQ8.out.qb.c1
                  have z1 : w8.cell? ⟨gw, j, none⟩ = some (.int .u64 (y1 : Int)) := by rw [hQ8.out.r1.cellAt j (by omega)]; unfold cellsW; rw [List.getElem?_map, hy1]; rfl
                  have z2 := hQ8.out.r1.frozenAt j
                  have c2 := hQa.out.qb.c2
                  have z3 : (w8.setCell ⟨gw, j, none⟩ (.int .u64 (A : Int))).cell? ⟨gf, j, none⟩ = some (.int .i64 y2) := by rw [hQa.out.r2.cellAt j (by have := hfl.out; omega)]; unfold cellsI; rw [List.getElem?_map, hy2]; rfl
                  have z4 := hQa.out.r2.frozenAt j
                  rw [l1] at c1
                  rw [l2] at c2
                  clear hy1 hy2 hQ8 hQa
                  go_wp2
                  exact ⟨⟨j + 1, by omega, by go_num, by rw [e1.out, e2.out]; have k := hQb.out; rw [List.length_set, l1, l2] at k; exact k⟩, by simp [intOf]; omega⟩
              · as_aux_lemma =>
                obtain rfl : j = P.who.length := by omega
                go_wp2
                go_meet
                exact hQ
          case rest =>
          clear hQ
          have hQ := hcut
          have p0 := hQ.out.qb.c0
          have p1 := hQ.out.qb.c1
          have p2 := hQ.out.qb.c2
          have p3 := hQ.out.qb.c3
          have f0 := hQ.out.z.frz 0
          have y0 := hQ.out.z.c0
          have f1 := (hQ.out.z.s0C P.users).frz 1
          have y1 := (hQ.out.z.s0C P.users).c1
          have f2 := ((hQ.out.z.s0C P.users).s1 (.slice oa P.who.length ca)).frz 2
          have y2 := ((hQ.out.z.s0C P.users).s1 (.slice oa P.who.length ca)).c2
          have f3 := (((hQ.out.z.s0C P.users).s1 (.slice oa P.who.length ca)).s2 (.slice ob P.fixed.length cb)).frz 3
          have y3 := (((hQ.out.z.s0C P.users).s1 (.slice oa P.who.length ca)).s2 (.slice ob P.fixed.length cb)).c3
          have x0 := ((((hQ.out.z.s0C P.users).s1 (.slice oa P.who.length ca)).s2 (.slice ob P.fixed.length cb)).s3 (.slice oc nc cc)).c0
          have x1 := ((((hQ.out.z.s0C P.users).s1 (.slice oa P.who.length ca)).s2 (.slice ob P.fixed.length cb)).s3 (.slice oc nc cc)).c1
          have x2 := ((((hQ.out.z.s0C P.users).s1 (.slice oa P.who.length ca)).s2 (.slice ob P.fixed.length cb)).s3 (.slice oc nc cc)).c2
          have x3 := ((((hQ.out.z.s0C P.users).s1 (.slice oa P.who.length ca)).s2 (.slice ob P.fixed.length cb)).s3 (.slice oc nc cc)).c3
          have hF := hide' (hQ.out.fin (.int .i64 P.users) (.slice oa P.who.length ca) (.slice ob P.fixed.length cb) (.slice oc nc cc))
          rw [hE.out] at hF
          have hXe : RsX P (inC R) (inC S) (sprW (inC S) (allW P.users) P.who P.who.length) (sprW (inC S) (-1) P.fixed P.who.length) := ⟨rfl⟩
          generalize (sprW (inC S) (allW P.users) P.who P.who.length) = M1 at *
          generalize (sprW (inC S) (-1) P.fixed P.who.length) = M2 at *
          clear hQ hcut
          go_wp2
          refine bodyPost_ret (v := .tuple #[.agg #[.int .i64 P.users, .slice oa P.who.length ca, .slice ob P.fixed.length cb, .slice oc nc cc], .int .i64 0]) (by simp [results, Tryz.results20, go_sem, x0, x1, x2, x3]) rfl ?_
          unfold WtP
          rw [hNP.n, hNP.p, hXe.x]
          exact ⟨_, _, _, _, _, _, _, _, _, rfl, hF.out.1, hF.out.2.1, hF.out.2.2.1, hF.out.2.2.2⟩
end Go.Proofs.YtcancjbpcppecaaGreatDoor.S
