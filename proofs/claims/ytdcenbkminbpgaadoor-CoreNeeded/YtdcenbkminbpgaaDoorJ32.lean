/- CoreNeeded, walked. -/
import Derived.Test.YtdcenbkminbpgaaDoorJ31
namespace Go.Proofs.YtdcenbkminbpgaaDoor.S
open Go.RowKit Go.Shelf
/-- append of one more number onto a row of one's own, at a step of a drawn region. -/
theorem app_oneC {o : Oper} {a : Act} {K : Act → World → Prop} {Q : Exit → Act → World → Prop} (s x : Operand) (W : World) (B : Nat) (L : List Nat) (v : Value) (y : Nat) (LX : List Nat) (hLX : LX = L ++ [y]) (ad : Addr) (ho : o.op = .call { callee := .builtin .append, args := #[s, x], argTypes := #[23, 23] }) (hs : a.eval s = v) (hx : a.eval x = .slice (some ad) 1 1) (hown : W.ownsRow B 3 1 v L.length (cellsI (ints L))) (hc : W.cell? ad = some (.int .i64 (y : Int))) (hl : L.length ≤ 1000) (hB : B ≤ W.heap.size)
    (h : ∀ o2 k2 w', Hid (w'.ownsRow B 3 1 (.slice o2 LX.length k2) LX.length (cellsI (ints LX))) → Hid (Below B W w') → K (a.put o.dst (.slice o2 LX.length k2)) w') : o.wp Tryd.prog a W K Q := by
  subst hLX
  obtain ⟨i0, hi0, hz0, hz1, hz2⟩ := info_parts info3
  refine wp_append_own W s x 23 ho B 3 i0 (.int .i64 0) 1 8 Tryd.underlying23 hi0 hz0 hz1 hz2 rfl (by decide) v L.length (cellsI (ints L)) hs hown ad 1 1 [.int .i64 (y : Int)] hx rfl ?_ (by simp [Value.oneCell']) (by unfold maxLen; omega) (by omega) hB ?_
  · intro j u hu
    match j, hu with
    | 0, hu =>
      cases hu
      have : ad.add 0 = ad := by cases ad; rfl
      rw [this]; exact hc
    | j + 1, hu => simp at hu
  · intro v' w' h1 h2 _
    obtain ⟨o2, k2, rfl⟩ := own_shp h1
    have h3 := h o2 k2 w'
    rw [intsC_snoc, List.length_append] at h3
    exact h3 h1 ((Below.refl B W).grown h2 hB (fun g e => (hown.lt g e).1))
structure CdM (Q : Pb) (A B RA RB : List Nat) : Prop where
  la : A.length ≤ 40
  n0 : AskD Q (ints RA) (ints RB) false
  na : ∀ (i x : Nat), A[i]? = some x → AskD Q (ints (RA ++ [x])) (ints RB) true
  nb : ∀ (i x : Nat), B[i]? = some x → AskD Q (ints RA) (ints (RB ++ [x])) true
set_option maxRecDepth 100000 in
set_option maxHeartbeats 16000000 in
theorem coreNeeded_walk (P : Pb) (wv fv rv : Value) (w : World) (h : PbV w P wv fv rv) (hb : ∀ z ∈ P.who, z < 18446744073709551616) (ht : M.Tab w) :
    Calls Tryd.prog 4 #[pbV P wv fv rv] w fun e w' => e = .returned (.bool true) ∧ Below w.heap.size w w' := by
  have hB0 : Hid (Below w.heap.size w (w.alloc (.cells #[.int .i64 P.users, wv, fv, rv] 26))) := (Below.refl _ w).alloc (Nat.le_refl _) _
  have K0 := hide' (cutC P wv fv rv _ (h.below hB0.out))
  have hk := hide' (cutP_ok hb)
  have ht' := hide' ht
  have hGw := ht.2
  have hQb : Hid (∀ V (a b c : Value), PbV V (cutP P) a b c → Calls Tryd.prog 7 #[pbV (cutP P) a b c] V fun e w' => ∃ va vb vc, e = .returned (pbV (cutP P) va vb vc) ∧ Hid (PbV w' (cutP P) va vb vc) ∧ Hid (Below V.heap.size V w') ∧ Hid (∀ ad n c, va = .slice (some ad) n c → V.heap.size ≤ ad.block ∧ ad.block < w'.heap.size)) := fun V a b c hq => cutD P a b c V hq
  have hQl : Hid ((cutP P).who.length ≤ 20 ∧ (cutP P).rules.length ≤ 40) := ⟨by show (P.who.take 20).length ≤ 20; rw [List.length_take]; omega, by show ((P.rules.take 40).map cutR).length ≤ 40; rw [List.length_map, List.length_take]; omega⟩
  clear h ht hb
  unfold pbV at K0 hQb ⊢
  generalize cutP P = Q at *
  go_enter Tryd.func4, Tryd.ntmps4
  go_wp2_with fail
  refine K0.out.mono ?_
  rintro e w1 ⟨qw, qf, qr, rfl, hq1, hb1, ho1⟩
  have hB1 : Hid (Below w.heap.size w w1) := hB0.out.trans (hb1.out.mono hB0.out.size)
  obtain ⟨ow, cw, of, cf, or, cr, rfl, rfl, rfl⟩ := hq1.out.shape
  have hbA : Hid (Below w1.heap.size w1 (w1.alloc (.cells #[.int .i64 Q.users, .slice ow Q.who.length cw, .slice of Q.fixed.length cf, .slice or Q.rules.length cr] 26))) := (Below.refl _ w1).alloc (Nat.le_refl _) _
  have hpA : Hid (PbB (w1.alloc (.cells #[.int .i64 Q.users, .slice ow Q.who.length cw, .slice of Q.fixed.length cf, .slice or Q.rules.length cr] 26)) w1.heap.size Q (.slice ow Q.who.length cw) (.slice of Q.fixed.length cf) (.slice or Q.rules.length cr)) := heap_new w1 _
  have hqA := hide' (hq1.out.below hbA.out)
  have hBA := hide' (hB1.out.trans (hbA.out.mono hB1.out.size))
  have hoA : Hid (∀ ad n c, Value.slice ow Q.who.length cw = .slice (some ad) n c → ad.block < w1.heap.size) := fun ad n c e => (ho1.out ad n c e).2
  have hzA : Hid (w1.heap.size < (w1.alloc (.cells #[.int .i64 Q.users, .slice ow Q.who.length cw, .slice of Q.fixed.length cf, .slice or Q.rules.length cr] 26)).heap.size) := (Array.getElem?_eq_some_iff.1 hpA.out).1
  clear hb1 hB0 K0 hq1 ho1 hbA hB1
  have KC := hide' (hQb.out (w1.alloc (.cells #[.int .i64 Q.users, .slice ow Q.who.length cw, .slice of Q.fixed.length cf, .slice or Q.rules.length cr] 26)) _ _ _ hqA.out)
  go_wp2_with fail
  refine KC.out.mono ?_
  rintro e w2 ⟨va, vb, vc, rfl, hq2, hb2, ho2⟩
  have hp2 := hide' (hpA.out.below hb2.out)
  have hqq := hide' (hqA.out.below hb2.out)
  have hB2 := hide' (hBA.out.trans (hb2.out.mono hBA.out.size))
  have hz2 : Hid (w1.heap.size < w2.heap.size) := Nat.lt_of_lt_of_le hzA.out hb2.out.size
  have KW := hide' (whyF Q va vb vc w2 hq2.out hk.out (ht'.out.over hB2.out) (fun ad n c e => (ho2.out ad n c e).2))
  unfold pbV WhP at KW
  clear KC hq2 hb2 ho2 hpA hqA hBA hzA
  go_wp2_with fail
  refine KW.out.mono ?_
  rintro e w3 ⟨o1, k1, o2, k2, A, B, s, rfl, hA, hBr, hb3, hS⟩
  have hp3 := hide' (hp2.out.below hb3.out)
  have hq3 := hide' (hqq.out.below hb3.out)
  have hB3 := hide' (hB2.out.trans (hb3.out.mono hB2.out.size))
  have hz3 : Hid (w1.heap.size < w3.heap.size) := Nat.lt_of_lt_of_le hz2.out hb3.out.size
  clear KW hp2 hqq hB2 hb3 hz2
  generalize w1.heap.size = g at *
  clear w1
  go_wp2_with fail
  refine (newF _).mono ?_
  rintro e w4 ⟨rfl, hg4, hb4⟩
  have hD4 : Hid (Cd w Q (.slice ow Q.who.length cw) (.slice of Q.fixed.length cf) (.slice or Q.rules.length cr) g w3.heap.size A B (.slice o1 A.length k1) (.slice o2 B.length k2) 0 0 0 w4) := ⟨⟨hp3.out.below hb4.out, hq3.out.below hb4.out, hg4.out, ht'.out.over (hB3.out.trans (hb4.out.mono hB3.out.size)), hB3.out.trans (hb4.out.mono hB3.out.size)⟩, hA.out.below hb4.out (Nat.le_refl _), hBr.out.below hb4.out (Nat.le_refl _), hB3.out.size, (fun ad n c e => by have := hoA.out ad n c e; have := hz3.out; omega), (by have := hz3.out; omega), Nat.le_trans hGw hB3.out.size⟩
  clear hp3 hq3 hg4 hb4 hB3 hz3 hoA hA hBr ht'
  generalize w3.heap.size = gs at *
  clear w3
  have K1 : Hid (∀ V a b c, Cd w Q (.slice ow Q.who.length cw) (.slice of Q.fixed.length cf) (.slice or Q.rules.length cr) g gs A B (.slice o1 A.length k1) (.slice o2 B.length k2) a b c V → Calls Tryd.prog 7 #[.agg #[.int .i64 Q.users, .slice ow Q.who.length cw, .slice of Q.fixed.length cf, .slice or Q.rules.length cr]] V fun e w' => ∃ va vb vc, e = .returned (.agg #[.int .i64 Q.users, va, vb, vc]) ∧ Hid (PbV w' Q va vb vc) ∧ Hid (Below V.heap.size V w') ∧ Hid (∀ ad n c, va = .slice (some ad) n c → V.heap.size ≤ ad.block ∧ ad.block < w'.heap.size)) := fun V a b c hV => hQb.out V _ _ _ hV.s.pv
  have K2 : Hid (∀ V va vb vc, PbV V Q va vb vc → Calls Tryd.prog 10 #[.agg #[.int .i64 Q.users, va, vb, vc]] V fun e w' => e = .returned (.int .i64 (chkN Q : Int)) ∧ Below V.heap.size V w') := fun V va vb vc hV => checkPF Q va vb vc V hV hk.out.w hk.out.f hk.out.r hk.out.s hk.out.b
  have K3 : Hid (∀ V a b c X x1 x2 x3, Cd w Q (.slice ow Q.who.length cw) (.slice of Q.fixed.length cf) (.slice or Q.rules.length cr) g gs A B (.slice o1 A.length k1) (.slice o2 B.length k2) a b c V → PbV V X x1 x2 x3 → Pok X → a ≤ 2305843009213693952 → b ≤ 2305843009213693952 → c ≤ 2305843009213693952 → Calls Tryd.prog 11 #[.pointer (some ⟨gs, 0, none⟩), .agg #[.int .i64 X.users, x1, x2, x3]] V (CaP V X gs a b c)) := fun V a b c X x1 x2 x3 hV hX hok ha hb hc => canF X x1 x2 x3 gs a b c V hX hok hV.s.gg hV.hG hV.s.tab ha hb hc
  unfold CaP at K3
  have K7 := hide' (wakesCF w4 hD4.out.s.tab)
  clear hQb
  go_wp2_with fail
  refine K7.out.mono ?_
  rintro e w5 ⟨rfl, hb5⟩
  have hD5 := hide' (hD4.out.over hb5)
  clear hb5 hD4 K7
  by_cases hyp : chkN Q = 0 ∧ canB Q = false
  case neg =>
    as_aux_lemma =>
    have hyp' : chkN Q ≠ 0 ∨ canB Q = true := by
      by_cases e : chkN Q = 0
      · exact .inr (by cases q : canB Q; exact absurd ⟨e, q⟩ hyp; rfl)
      · exact .inl e
    obtain ⟨rfl, rfl, rfl⟩ := hS.out.n hyp'
    have q := hD5.out.s.pb.all
    clear hyp hS
    go_wp2_with fail
    refine (K1.out _ _ _ _ hD5.out).mono ?_
    rintro e w6 ⟨va, vb, vc, rfl, hq6, hb6, _⟩
    have hD6 := hide' (hD5.out.over hb6.out)
    clear q hD5 hb6
    go_wp2_with fail
    refine (K2.out _ _ _ _ hq6.out).mono ?_
    rintro e w7 ⟨rfl, hb7⟩
    have hD7 := hide' (hD6.out.over hb7)
    clear hD6 hb7 hq6 K2
    by_cases hC : chkN Q = 0
    · have hcan : canB Q = true := by rcases hyp' with q | q; exact absurd hC q; exact q
      have hne : (((chkN Q : Nat) : Int) != 0) = false := by rw [hC]; rfl
      have q := hD7.out.s.pb.all
      clear hyp' hC
      generalize ((chkN Q : Nat) : Int) = cc at *
      go_wp2_with fail
      refine (K1.out _ _ _ _ hD7.out).mono ?_
      rintro e w8 ⟨va, vb, vc, rfl, hq8, hb8, _⟩
      have hD8 := hide' (hD7.out.over hb8.out)
      clear q hD7 hb8
      go_wp2_with fail
      refine (K3.out _ _ _ _ Q _ _ _ hD8.out hq8.out hk.out (by decide) (by decide) (by decide)).mono ?_
      rintro e w9 ⟨rfl, a9, b9, c9, hg9, _, hf9⟩
      have hD9 := hide' (hD8.out.fr hf9.out hg9.out)
      rw [hcan]
      clear hD8 hq8 hf9 hg9
      go_wp2
      go_ret
      exact ⟨rfl, hD9.out.s.be⟩
    · have hne : (((chkN Q : Nat) : Int) != 0) = true := by rw [bne_iff_ne]; omega
      clear hyp' hC
      generalize ((chkN Q : Nat) : Int) = cc at *
      go_wp2
      go_ret
      exact ⟨rfl, hD7.out.s.be⟩
  obtain ⟨rfl, hA, hBe⟩ := hS.out.y hyp.1 hyp.2
  have hN : CdN Q A B := by rw [hA, hBe]; exact cdN_of hk.out hyp.1 hyp.2
  have hcq := hyp.2
  have hla40 : Hid (A.length ≤ Q.rules.length) := by rw [hA]; exact whyA_len Q
  clear hyp hA hBe hS K2
  have K4 : Hid (∀ V a b c, Cd w Q (.slice ow Q.who.length cw) (.slice of Q.fixed.length cf) (.slice or Q.rules.length cr) g gs A B (.slice o1 A.length k1) (.slice o2 B.length k2) a b c V → Calls Tryd.prog 18 #[.int .i64 (Q.rules.length : Int), .slice o1 A.length k1] V fun e w' => ∃ o k, e = .returned (.slice o (rsL Q.rules.length A).length k) ∧ Hid (w'.ownsRow V.heap.size 3 1 (.slice o (rsL Q.rules.length A).length k) (rsL Q.rules.length A).length (cellsI (ints (rsL Q.rules.length A)))) ∧ Hid (Below V.heap.size V w')) := fun V a b c hV => restLF _ A _ V hV.ra (by have := hQl.out.2; omega) hN.la
  have K5 : Hid (∀ V a b c, Cd w Q (.slice ow Q.who.length cw) (.slice of Q.fixed.length cf) (.slice or Q.rules.length cr) g gs A B (.slice o1 A.length k1) (.slice o2 B.length k2) a b c V → Calls Tryd.prog 18 #[.int .i64 (Q.who.length : Int), .slice o2 B.length k2] V fun e w' => ∃ o k, e = .returned (.slice o (rsL Q.who.length B).length k) ∧ Hid (w'.ownsRow V.heap.size 3 1 (.slice o (rsL Q.who.length B).length k) (rsL Q.who.length B).length (cellsI (ints (rsL Q.who.length B)))) ∧ Hid (Below V.heap.size V w')) := fun V a b c hV => restLF _ B _ V hV.rb (by have := hQl.out.1; omega) hN.lb
  have K6 : Hid (∀ V va vb vc vr vs R S c, PbV V Q va vb vc → RowI V vr R → RowI V vs S → R.length ≤ 1000 → S.length ≤ 1000 → AskD Q R S c → Calls Tryd.prog 17 #[.agg #[.int .i64 Q.users, va, vb, vc], vr, vs] V (WtP V (wtP Q R S) 0)) := fun V va vb vc vr vs R S c hV h1 h2 hl1 hl2 hA => by
    have := withoutF Q va vb vc vr vs R S V hV hk.out h1 h2 (by omega) (by omega)
    rw [hA.n] at this
    exact this
  unfold WtP at K6
  have hrl := rsL_len Q.rules.length A
  have hwl := rsL_len Q.who.length B
  have hlA : A.length ≤ 1000 := hN.la
  have hlB : B.length ≤ 1000 := hN.lb
  have hql1 := hQl.out.1
  have hql2 := hQl.out.2
  have hA0 := hN.n0
  have hNa := hN.na
  have hNb := hN.nb
  replace hN : CdM Q A B (rsL Q.rules.length A) (rsL Q.who.length B) := ⟨by have := hla40.out; omega, hN.n0, hN.na, hN.nb⟩
  clear hNa hNb hA0
  have hlA2 : Hid (A.length ≤ 40) := hN.la
  clear hla40
  generalize rsL Q.rules.length A = RA at *
  generalize rsL Q.who.length B = RB at *
  have q := hD5.out.s.pb.all
  go_wp2_with fail
  refine (K1.out _ _ _ _ hD5.out).mono ?_
  rintro e w6 ⟨va, vb, vc, rfl, hq6, hb6, _⟩
  have hD6 := hide' (hD5.out.over hb6.out)
  clear q hD5 hb6
  go_wp2_with fail
  refine (K4.out _ _ _ _ hD6.out).mono ?_
  rintro e w7 ⟨o7, k7, rfl, hO7, hb7⟩
  have hD7 := hide' (hD6.out.over hb7.out)
  have hq7 := hide' (hq6.out.below hb7.out)
  clear hD6 hb7 hq6
  go_wp2_with fail
  refine (K5.out _ _ _ _ hD7.out).mono ?_
  rintro e w8 ⟨o8, k8, rfl, hO8, hb8⟩
  have hD8 := hide' (hD7.out.over hb8.out)
  have hq8 := hide' (hq7.out.below hb8.out)
  have hO78 := hide' (own_below hO7.out hb8.out (Nat.le_refl _))
  clear hD7 hb8 hq7 hO7
  have KX := hide' (K6.out w8 va vb vc _ _ _ _ false hq8.out (RowI.of_owns hO78.out) (RowI.of_owns hO8.out) (by rw [ints_len]; omega) (by rw [ints_len]; omega) hN.n0)
  have hok := hide' hN.n0.ok
  have hcan := hide' hN.n0.can
  generalize wtP Q (ints RA) (ints RB) = X at *
  clear hq8 hO78 hO8
  go_wp2_with fail
  refine KX.out.mono ?_
  rintro e V0 ⟨x1o, x1n, x1c, x2o, x2n, x2c, x3o, x3n, x3c, rfl, hX9, hb9, _, _⟩
  have hD9 := hide' (hD8.out.over hb9.out)
  have hXn := hide' (Cx.new hD9.out X.users (.slice x1o x1n x1c) (.slice x2o x2n x2c) (.slice x3o x3n x3c))
  have hbn : Hid (Below V0.heap.size V0 (V0.alloc (.cells #[.int .i64 X.users, .slice x1o x1n x1c, .slice x2o x2n x2c, .slice x3o x3n x3c] 26))) := (Below.refl _ V0).alloc (Nat.le_refl _) _
  have hXV := hide' (hX9.out.below hbn.out)
  clear hD8 hb9 KX hD9 hX9 hbn
  go_wp2_with fail
  generalize V0.alloc (.cells #[.int .i64 X.users, .slice x1o x1n x1c, .slice x2o x2n x2c, .slice x3o x3n x3c] 26) = w10 at *
  refine (K3.out _ _ _ _ X _ _ _ hXn.out.d hXV.out hok.out (by decide) (by decide) (by decide)).mono ?_
  rintro e w11 ⟨rfl, a11, b11, c11, hg11, hgc11, hf11⟩
  have hX11 := hide' (hXn.out.frr hf11.out hg11.out)
  have hle11 := hide' (hgc11.out.le (by decide))
  rw [hcan.out]
  clear hXn hXV hok hcan hf11 hg11 hgc11
  have q := hX11.out.d.s.pb.all
  go_wp2_with fail
  refine (K1.out _ _ _ _ hX11.out.d).mono ?_
  rintro e w12 ⟨va, vb, vc, rfl, hq12, hb12, _⟩
  have hX12 := hide' (hX11.out.over hb12.out)
  clear q hX11 hb12
  go_wp2_with fail
  refine (K3.out _ a11 b11 c11 Q _ _ _ hX12.out.d hq12.out hk.out (by have := hle11.out; omega) (by have := hle11.out; omega) (by have := hle11.out; omega)).mono ?_
  rintro e w13 ⟨rfl, a13, b13, c13, hg13, hgc13, hf13⟩
  have hXs := hide' (hX12.out.frr hf13.out hg13.out)
  have hle13 := hide' (hgc13.out.le (by decide))
  have hXl : Hid (a13 ≤ 10000000000000 + 2000000000000 * 0 ∧ b13 ≤ 10000000000000 + 2000000000000 * 0 ∧ c13 ≤ 10000000000000 + 2000000000000 * 0) := by have := hle11.out; have := hle13.out; show _ ∧ _ ∧ _; omega
  rw [hcq]
  clear hX12 hf13 hg13 hgc13 hle11 hle13 hq12 hcq hk
  go_wp2
  go_loopw [11, 12] (fun _ p wr => ∃ i a b c : Nat, i ≤ A.length ∧ p = .int .i64 (i : Int) ∧ Hid (Cx w Q (.slice ow Q.who.length cw) (.slice of Q.fixed.length cf) (.slice or Q.rules.length cr) g gs A B (.slice o1 A.length k1) (.slice o2 B.length k2) V0 a b c wr) ∧ Hid (a ≤ 10000000000000 + 2000000000000 * i ∧ b ≤ 10000000000000 + 2000000000000 * i ∧ c ≤ 10000000000000 + 2000000000000 * i)) (fun _ p _ => ((A.length : Int) - intOf p).toNat)
  case atStart => exact ⟨0, _, _, _, Nat.zero_le _, rfl, hXs, hXl⟩
  case round =>
    clear hXs hXl
    obtain ⟨i, a0, b0, c0, hi, rfl, hX, hle⟩ := hrel
    by_cases hlt : i < A.length
    · as_aux_lemma =>
      have hlt' : (i : Int) < (A.length : Int) := by omega
      have hi0 : ¬ (i : Int) < 0 := by omega
      obtain ⟨x, hx⟩ : ∃ x, A[i]? = some x := ⟨_, List.getElem?_eq_getElem hlt⟩
      have hAsk := hN.na i x hx
      have hxI : (ints A)[i]? = some (x : Int) := by unfold ints; rw [List.getElem?_map, hx]; rfl
      obtain ⟨ga, oo, e1, hcx⟩ : ∃ ga oo, o1 = some ⟨ga, oo, none⟩ ∧ Hid (∀ V a b c, Cd w Q (.slice ow Q.who.length cw) (.slice of Q.fixed.length cf) (.slice or Q.rules.length cr) g gs A B (.slice o1 A.length k1) (.slice o2 B.length k2) a b c V → V.cell? ⟨ga, oo + i, none⟩ = some (.int .i64 (x : Int))) := by
        obtain ⟨oa2, cap2, e, _, hc⟩ := hX.out.d.ra
        obtain ⟨ga, oo, e2, e3⟩ := hc i _ hxI
        injection e with e4 e5 e6
        subst e4
        refine ⟨ga, oo, e2, fun V a b c hV => ?_⟩
        obtain ⟨oa3, cap3, e', _, hc'⟩ := hV.ra
        obtain ⟨ga', oo', e2', e3'⟩ := hc' i _ hxI
        injection e' with e4' e5' e6'
        rw [← e4', e2] at e2'
        cases e2'
        exact e3'
      subst e1
      obtain ⟨RX, hRX⟩ : ∃ l, l = RA ++ [x] := ⟨_, rfl⟩
      have hRX' := hide' hRX
      have hlX : RX.length ≤ 100 := by rw [hRX, List.length_append, List.length_singleton]; omega
      rw [← hRX] at hAsk
      clear hRX
      have KX : Hid (∀ V va vb vc vr vs, PbV V Q va vb vc → RowI V vr (ints RX) → RowI V vs (ints (RB)) → Calls Tryd.prog 17 #[.agg #[.int .i64 Q.users, va, vb, vc], vr, vs] V (WtP V (wtP Q (ints RX) (ints (RB))) 0)) := fun V va vb vc vr vs hV h1 h2 => K6.out V va vb vc vr vs _ _ true hV h1 h2 (by rw [ints_len]; first | omega | (simp only [List.length_append, List.length_singleton]; omega)) (by rw [ints_len]; first | omega | (simp only [List.length_append, List.length_singleton]; omega)) hAsk
      have hok := hide' hAsk.ok
      have hcan := hide' hAsk.can
      unfold WtP at KX
      generalize wtP Q (ints RX) (ints (RB)) = X at *
      have hSS : Hid (∀ V a b c, Cd w Q (.slice ow Q.who.length cw) (.slice of Q.fixed.length cf) (.slice or Q.rules.length cr) g gs A B (.slice (some ⟨ga, oo, none⟩) A.length k1) (.slice o2 B.length k2) a b c V → (V.cell? ⟨g, 0, none⟩ = some (.int .i64 Q.users) ∧ V.cell? ⟨g, 1, none⟩ = some (.slice ow Q.who.length cw) ∧ V.cell? ⟨g, 2, none⟩ = some (.slice of Q.fixed.length cf) ∧ V.cell? ⟨g, 3, none⟩ = some (.slice or Q.rules.length cr)) ∧ V.cell? ⟨ga, oo + i, none⟩ = some (.int .i64 (x : Int))) := fun V a b c hV => ⟨⟨hV.s.pb.c0, hV.s.pb.c1, hV.s.pb.c2, hV.s.pb.c3⟩, hcx.out V a b c hV⟩
      clear hAsk hxI hcx hx K6 hN
      go_upto_region 16 with fail
      go_cut [11] from 89 to 107 (fun ev wx => ev = .int .i64 0 ∧ ∃ x1o x1n x1c x2o x2n x2c x3o x3n x3c, Hid (Cx w Q (.slice ow Q.who.length cw) (.slice of Q.fixed.length cf) (.slice or Q.rules.length cr) g gs A B (.slice (some ⟨ga, oo, none⟩) A.length k1) (.slice o2 B.length k2) V0 a0 b0 c0 wx) ∧ Hid (PbV wx X (.slice x1o x1n x1c) (.slice x2o x2n x2c) (.slice x3o x3n x3c)) ∧ Hid (QAt wx V0.heap.size X.users (.slice x1o x1n x1c) (.slice x2o x2n x2c) (.slice x3o x3n x3c)))
      case first =>
        as_aux_lemma =>
        have hSd := hide' (hX.out.over (Below.refl _ wr).drew)
        clear hX K3
        refine wp_region_held_drew (S := (fun V => (V.cell? ⟨g, 0, none⟩ = some (.int .i64 Q.users) ∧ V.cell? ⟨g, 1, none⟩ = some (.slice ow Q.who.length cw) ∧ V.cell? ⟨g, 2, none⟩ = some (.slice of Q.fixed.length cf) ∧ V.cell? ⟨g, 3, none⟩ = some (.slice or Q.rules.length cr)) ∧ V.cell? ⟨ga, oo + i, none⟩ = some (.int .i64 (x : Int)))) (by kernel_rfl) ?_ (fun hHeld => ?_)
        · exact hSS.out _ _ _ _ hSd.out.d
        refine wpAnyH_take (i := 0) (oi := { dst := some 90, op := Op.load 26 (Operand.tmp 3), type := 26, pos := "law.go:82", after := #[], guard := none }) (v := ?_) rfl (by kernel_rfl) (by kernel_rfl) (by kernel_rfl) (fun _ _ _ h => h) (Or.inl ⟨by rfl, ?_⟩) (by assumption) ?_
        rotate_left
        · intro w hSw; (try dsimp only at hSw); go_simp <;> with_reducible rfl
        simp only [Act.put, List.setIfInBounds_toArray, List.set_cons_zero, List.set_cons_succ]
        refine wpAnyH_take (i := 2) (oi := { dst := some 92, op := Op.move (Operand.tmp 8), type := 3, pos := "law.go:82", after := #[], guard := none }) (v := ?_) rfl (by kernel_rfl) (by kernel_rfl) (by kernel_rfl) (fun _ _ _ h => h) (Or.inl ⟨by rfl, ?_⟩) (by assumption) ?_
        rotate_left
        · intro w hSw; (try dsimp only at hSw); go_simp <;> with_reducible rfl
        simp only [Act.put, List.setIfInBounds_toArray, List.set_cons_zero, List.set_cons_succ]
        refine wpAnyH_take (i := 3) (oi := { dst := some 93, op := Op.move (Operand.tmp 4), type := 23, pos := "law.go:82", after := #[], guard := none }) (v := ?_) rfl (by kernel_rfl) (by kernel_rfl) (by kernel_rfl) (fun _ _ _ h => h) (Or.inl ⟨by rfl, ?_⟩) (by assumption) ?_
        rotate_left
        · intro w hSw; (try dsimp only at hSw); go_simp <;> with_reducible rfl
        simp only [Act.put, List.setIfInBounds_toArray, List.set_cons_zero, List.set_cons_succ]
        refine wpAnyH_take (i := 5) (oi := { dst := some 95, op := Op.move (Operand.tmp 4), type := 23, pos := "law.go:82", after := #[], guard := none }) (v := ?_) rfl (by kernel_rfl) (by kernel_rfl) (by kernel_rfl) (fun _ _ _ h => h) (Or.inl ⟨by rfl, ?_⟩) (by assumption) ?_
        rotate_left
        · intro w hSw; (try dsimp only at hSw); go_simp <;> with_reducible rfl
        simp only [Act.put, List.setIfInBounds_toArray, List.set_cons_zero, List.set_cons_succ]
        refine wpAnyH_take (i := 6) (oi := { dst := some 96, op := Op.move (Operand.tmp 12), type := 3, pos := "law.go:82", after := #[], guard := none }) (v := ?_) rfl (by kernel_rfl) (by kernel_rfl) (by kernel_rfl) (fun _ _ _ h => h) (Or.inl ⟨by rfl, ?_⟩) (by assumption) ?_
        rotate_left
        · intro w hSw; (try dsimp only at hSw); go_simp <;> with_reducible rfl
        simp only [Act.put, List.setIfInBounds_toArray, List.set_cons_zero, List.set_cons_succ]
        refine wpAnyH_take (i := 7) (oi := { dst := some 97, op := Op.indexAddr 23 (Operand.tmp 95) (Operand.tmp 96), type := 0, pos := "law.go:82", after := #[{ on := 5, ground := Ground.data }, { on := 6, ground := Ground.data }], guard := none }) (v := ?_) rfl (by kernel_rfl) (by kernel_rfl) (by kernel_rfl) (fun _ _ _ h => h) (Or.inl ⟨by rfl, ?_⟩) (by assumption) ?_
        rotate_left
        · intro w hSw; (try dsimp only at hSw); go_simp <;> with_reducible rfl
        simp only [Act.put, List.setIfInBounds_toArray, List.set_cons_zero, List.set_cons_succ]
        refine wpAnyH_take (i := 8) (oi := { dst := some 98, op := Op.load 3 (Operand.tmp 97), type := 3, pos := "law.go:82", after := #[{ on := 7, ground := Ground.data }], guard := none }) (v := ?_) rfl (by kernel_rfl) (by kernel_rfl) (by kernel_rfl) (fun _ _ _ h => h) (Or.inl ⟨by rfl, ?_⟩) (by assumption) ?_
        rotate_left
        · intro w hSw; (try dsimp only at hSw); go_simp <;> with_reducible rfl
        simp only [Act.put, List.setIfInBounds_toArray, List.set_cons_zero, List.set_cons_succ]
        refine wpAnyH_take (i := 11) (oi := { dst := some 101, op := Op.move (Operand.tmp 9), type := 3, pos := "law.go:82", after := #[], guard := none }) (v := ?_) rfl (by kernel_rfl) (by kernel_rfl) (by kernel_rfl) (fun _ _ _ h => h) (Or.inl ⟨by rfl, ?_⟩) (by assumption) ?_
        rotate_left
        · intro w hSw; (try dsimp only at hSw); go_simp <;> with_reducible rfl
        simp only [Act.put, List.setIfInBounds_toArray, List.set_cons_zero, List.set_cons_succ]
        refine wpAnyH_take (i := 12) (oi := { dst := some 102, op := Op.move (Operand.tmp 5), type := 23, pos := "law.go:82", after := #[], guard := none }) (v := ?_) rfl (by kernel_rfl) (by kernel_rfl) (by kernel_rfl) (fun _ _ _ h => h) (Or.inl ⟨by rfl, ?_⟩) (by assumption) ?_
        rotate_left
        · intro w hSw; (try dsimp only at hSw); go_simp <;> with_reducible rfl
        simp only [Act.put, List.setIfInBounds_toArray, List.set_cons_zero, List.set_cons_succ]
        refine wpAnyH_ready (rs := [1, 9]) (by kernel_rfl) (by simp) ?_
        refine AllReadyH.cons (o := { dst := some 91, op := Op.call { callee := Callee.value (Operand.func 7), args := #[Operand.tmp 90], argTypes := #[26] }, type := 26, pos := "law.go:82", after := #[{ on := 0, ground := Ground.data }], guard := none }) rfl (fun K hK => ?_) ?_
        · skip
          go_simp
          go_at_call 7; refine (K1.out _ _ _ _ hSd.out.d).mono ?_; rintro e v1 ⟨va, vb, vc, rfl, hq1, hb1, _⟩; have hS1 := hide' (hSd.out.over hb1.out); (try dsimp only)
          refine hK.out _ _ ?_ (fun hHeld => ?_)
          · exact hSS.out _ _ _ _ hS1.out.d
          clear hK K
          try simp only [Act.put, List.setIfInBounds_toArray, List.set_cons_zero, List.set_cons_succ]
          refine wpAnyH_ready (rs := [4, 9]) (by kernel_rfl) (by simp) ?_
          refine AllReadyH.cons (o := { dst := some 94, op := Op.call { callee := Callee.value (Operand.func 18), args := #[Operand.tmp 92, Operand.tmp 93], argTypes := #[3, 23] }, type := 23, pos := "law.go:82", after := #[{ on := 2, ground := Ground.data }, { on := 3, ground := Ground.data }, { on := 1, ground := Ground.chain }], guard := none }) rfl (fun K hK => ?_) ?_
          · skip
            go_simp
            go_at_call 18; refine (K4.out _ _ _ _ hS1.out.d).mono ?_; rintro e v4 ⟨o4, k4, rfl, hO4_4, hb4⟩; have hS4 := hide' (hS1.out.over hb4.out); have hq4 := hide' (hq1.out.below hb4.out); have hBp := hide' hb4.out; have hSp := hS1; have hqp := hq1; (try dsimp only)
            refine hK.out _ _ ?_ (fun hHeld => ?_)
            · exact hSS.out _ _ _ _ hS4.out.d
            clear hK K
            try simp only [Act.put, List.setIfInBounds_toArray, List.set_cons_zero, List.set_cons_succ]
            refine wpAnyH_ready (rs := [9]) (by kernel_rfl) (by simp) ?_
            refine AllReadyH.cons (o := { dst := some 99, op := Op.buildSlice 23 1 #[(0, Operand.tmp 98)], type := 23, pos := "law.go:82", after := #[{ on := 8, ground := Ground.data }], guard := none }) rfl (fun K hK => ?_) AllReadyH.nil
            go_simp
            have hS9 := hide' (hS4.out.over ((Below.refl _ v4).alloc (Nat.le_refl _) (.cells #[.int .i64 (x : Int)] 3))); have hq9 := hide' (hq4.out.below ((Below.refl _ v4).alloc (Nat.le_refl _) (.cells #[.int .i64 (x : Int)] 3))); have hc9 := hide' ((Bo.new v4 (.int .i64 (x : Int)) 3).c); have hO4_9 := hide' (own_below hO4_4.out ((Below.refl _ v4).alloc (Nat.le_refl _) (.cells #[.int .i64 (x : Int)] 3)) (Nat.le_refl _)); have hBp := hide' (hBp.out.alloc (hBp.out.size) (.cells #[.int .i64 (x : Int)] 3)); (try dsimp only)
            refine hK.out _ _ ?_ (fun hHeld => ?_)
            · exact hSS.out _ _ _ _ hS9.out.d
            clear hK K
            try simp only [Act.put, List.setIfInBounds_toArray, List.set_cons_zero, List.set_cons_succ]
            refine wpAnyH_ready (rs := [10]) (by kernel_rfl) (by simp) ?_
            refine AllReadyH.cons (o := { dst := some 100, op := Op.call { callee := Callee.builtin Builtin.append, args := #[Operand.tmp 94, Operand.tmp 99], argTypes := #[23, 23] }, type := 23, pos := "law.go:82", after := #[{ on := 4, ground := Ground.data }, { on := 9, ground := Ground.data }, { on := 4, ground := Ground.chain }], guard := none }) rfl (fun K hK => ?_) AllReadyH.nil
            rw [if_pos (by rfl)]
            refine app_oneC _ _ _ _ RA _ x RX hRX'.out _ rfl rfl rfl hO4_9.out hc9.out (by omega) (by have := hBp.out.size; first | exact this | (simp; omega) | omega) ?_; intro oA kA v10 hOA_10 hbA; have hBA := hide' (hBp.out.trans hbA.out); have hS10 := hide' (hSp.out.over hBA.out); have hq10 := hide' (hqp.out.below hBA.out); (try dsimp only)
            refine hK.out _ _ ?_ (fun hHeld => ?_)
            · exact hSS.out _ _ _ _ hS10.out.d
            clear hK K
            try simp only [Act.put, List.setIfInBounds_toArray, List.set_cons_zero, List.set_cons_succ]
            refine wpAnyH_ready (rs := [13]) (by kernel_rfl) (by simp) ?_
            refine AllReadyH.cons (o := { dst := some 103, op := Op.call { callee := Callee.value (Operand.func 18), args := #[Operand.tmp 101, Operand.tmp 102], argTypes := #[3, 23] }, type := 23, pos := "law.go:82", after := #[{ on := 11, ground := Ground.data }, { on := 12, ground := Ground.data }, { on := 10, ground := Ground.chain }], guard := none }) rfl (fun K hK => ?_) AllReadyH.nil
            go_simp
            go_at_call 18; refine (K5.out _ _ _ _ hS10.out.d).mono ?_; rintro e v13 ⟨o13, k13, rfl, hO13_13, hb13⟩; have hS13 := hide' (hS10.out.over hb13.out); have hq13 := hide' (hq10.out.below hb13.out); have hOA_13 := hide' (own_below hOA_10.out hb13.out (Nat.le_refl _)); (try dsimp only)
            refine hK.out _ _ ?_ (fun hHeld => ?_)
            · exact hSS.out _ _ _ _ hS13.out.d
            clear hK K
            try simp only [Act.put, List.setIfInBounds_toArray, List.set_cons_zero, List.set_cons_succ]
            refine wpAnyH_ready (rs := [14]) (by kernel_rfl) (by simp) ?_
            refine AllReadyH.cons (o := { dst := some 104, op := Op.call { callee := Callee.value (Operand.func 17), args := #[Operand.tmp 91, Operand.tmp 100, Operand.tmp 103], argTypes := #[26, 23, 23] }, type := 42, pos := "law.go:82", after := #[{ on := 1, ground := Ground.data }, { on := 10, ground := Ground.data }, { on := 13, ground := Ground.data }, { on := 13, ground := Ground.chain }], guard := none }) rfl (fun K hK => ?_) AllReadyH.nil
            go_simp
            go_at_call 17; refine (KX.out _ _ _ _ _ _ hq13.out (RowI.of_owns hOA_13.out) (RowI.of_owns hO13_13.out)).mono ?_; rintro e v14 ⟨x1o, x1n, x1c, x2o, x2n, x2c, x3o, x3n, x3c, rfl, hX14, hb14, _, hkX⟩; have hS14 := hide' (hS13.out.over hb14.out); have hz14 := hS13.out.lt; obtain ⟨ub, xb, yb, zb, hbx⟩ := hS14.out.bx; have f0 := hbx.frz 0; have y0 := hbx.c0; have f1 := (hbx.s0C X.users).frz 1; have y1 := (hbx.s0C X.users).c1; have f2 := ((hbx.s0C X.users).s1 (.slice x1o x1n x1c)).frz 2; have y2 := ((hbx.s0C X.users).s1 (.slice x1o x1n x1c)).c2; have f3 := (((hbx.s0C X.users).s1 (.slice x1o x1n x1c)).s2 (.slice x2o x2n x2c)).frz 3; have y3 := (((hbx.s0C X.users).s1 (.slice x1o x1n x1c)).s2 (.slice x2o x2n x2c)).c3; have hP := hide' (hS14.out.put X (.slice x1o x1n x1c) (.slice x2o x2n x2c) (.slice x3o x3n x3c)); (try dsimp only)
            refine hK.out _ _ ?_ (fun hHeld => ?_)
            · exact hSS.out _ _ _ _ hS14.out.d
            clear hK K
            try simp only [Act.put, List.setIfInBounds_toArray, List.set_cons_zero, List.set_cons_succ]
            refine wpAnyH_take (i := 15) (oi := { dst := some 89, op := Op.move (Operand.tmp 104), type := 42, pos := "law.go:82", after := #[{ on := 14, ground := Ground.data }], guard := none }) (v := ?_) rfl (by kernel_rfl) (by kernel_rfl) (by kernel_rfl) (fun _ _ _ h => h) (Or.inl ⟨by rfl, ?_⟩) (by assumption) ?_
            rotate_left
            · intro w hSw; (try dsimp only at hSw); go_simp <;> with_reducible rfl
            simp only [Act.put, List.setIfInBounds_toArray, List.set_cons_zero, List.set_cons_succ]
            refine wpAnyH_take (i := 16) (oi := { dst := some 105, op := Op.extract (Operand.tmp 89) 0, type := 26, pos := "law.go:82", after := #[{ on := 15, ground := Ground.data }], guard := none }) (v := ?_) rfl (by kernel_rfl) (by kernel_rfl) (by kernel_rfl) (fun _ _ _ h => h) (Or.inl ⟨by rfl, ?_⟩) (by assumption) ?_
            rotate_left
            · intro w hSw; (try dsimp only at hSw); go_simp <;> with_reducible rfl
            simp only [Act.put, List.setIfInBounds_toArray, List.set_cons_zero, List.set_cons_succ]
            refine wpAnyH_take (i := 17) (oi := { dst := some 106, op := Op.extract (Operand.tmp 89) 1, type := 31, pos := "law.go:82", after := #[{ on := 15, ground := Ground.data }, { on := 18, ground := Ground.gcOnly Departure.lateStores }], guard := none }) (v := ?_) rfl (by kernel_rfl) (by kernel_rfl) (by kernel_rfl) (fun _ _ _ h => h) (Or.inl ⟨by rfl, ?_⟩) (by assumption) ?_
            rotate_left
            · intro w hSw; (try dsimp only at hSw); go_simp <;> with_reducible rfl
            simp only [Act.put, List.setIfInBounds_toArray, List.set_cons_zero, List.set_cons_succ]
            refine wpAnyH_ready (rs := [18]) (by kernel_rfl) (by simp) ?_
            refine AllReadyH.cons (o := { dst := none, op := Op.store 26 (Operand.tmp 10) (Operand.tmp 105), type := 0, pos := "law.go:82", after := #[{ on := 16, ground := Ground.data }, { on := 14, ground := Ground.chain }, { on := 0, ground := Ground.phase }, { on := 1, ground := Ground.phase }, { on := 2, ground := Ground.phase }, { on := 3, ground := Ground.phase }, { on := 4, ground := Ground.phase }, { on := 5, ground := Ground.phase }, { on := 6, ground := Ground.phase }, { on := 7, ground := Ground.phase }, { on := 8, ground := Ground.phase }, { on := 9, ground := Ground.phase }, { on := 10, ground := Ground.phase }, { on := 11, ground := Ground.phase }, { on := 12, ground := Ground.phase }, { on := 13, ground := Ground.phase }, { on := 14, ground := Ground.phase }, { on := 15, ground := Ground.phase }, { on := 16, ground := Ground.phase }, { on := 17, ground := Ground.textOnly Departure.lateStores }], guard := none }) rfl (fun K hK => ?_) AllReadyH.nil
            go_simp
            refine hK.out _ _ ?_ (fun hHeld => ?_)
            · exact hSS.out _ _ _ _ hP.out.2.1.d
            clear hK K
            try simp only [Act.put, List.setIfInBounds_toArray, List.set_cons_zero, List.set_cons_succ]
            refine wpAnyH_take (i := 19) (oi := { dst := some 11, op := Op.assign (Operand.tmp 106), type := 31, pos := "law.go:82", after := #[{ on := 17, ground := Ground.data }, { on := 18, ground := Ground.chain }, { on := 0, ground := Ground.phase }, { on := 1, ground := Ground.phase }, { on := 2, ground := Ground.phase }, { on := 3, ground := Ground.phase }, { on := 4, ground := Ground.phase }, { on := 5, ground := Ground.phase }, { on := 6, ground := Ground.phase }, { on := 7, ground := Ground.phase }, { on := 8, ground := Ground.phase }, { on := 9, ground := Ground.phase }, { on := 10, ground := Ground.phase }, { on := 11, ground := Ground.phase }, { on := 12, ground := Ground.phase }, { on := 13, ground := Ground.phase }, { on := 14, ground := Ground.phase }, { on := 15, ground := Ground.phase }, { on := 16, ground := Ground.phase }, { on := 17, ground := Ground.phase }, { on := 18, ground := Ground.phase }], guard := none }) (v := ?_) rfl (by kernel_rfl) (by kernel_rfl) (by kernel_rfl) (fun _ _ _ h => h) (Or.inl ⟨by rfl, ?_⟩) (by assumption) ?_
            rotate_left
            · intro w hSw; (try dsimp only at hSw); go_simp <;> with_reducible rfl
            simp only [Act.put, List.setIfInBounds_toArray, List.set_cons_zero, List.set_cons_succ]
            refine wpAnyH_done (by kernel_rfl) ?_ _
            skip
            have hPV := hide' (hkX.out ((((v14.setCell ⟨V0.heap.size, 0, none⟩ (.int .i64 X.users)).setCell ⟨V0.heap.size, 1, none⟩ (.slice x1o x1n x1c)).setCell ⟨V0.heap.size, 2, none⟩ (.slice x2o x2n x2c)).setCell ⟨V0.heap.size, 3, none⟩ (.slice x3o x3n x3c)) (fun k h1 _ => by rw [Below.heap_setCell _ _ _ _ (by show k ≠ V0.heap.size; omega), Below.heap_setCell _ _ _ _ (by show k ≠ V0.heap.size; omega), Below.heap_setCell _ _ _ _ (by show k ≠ V0.heap.size; omega), Below.heap_setCell _ _ _ _ (by show k ≠ V0.heap.size; omega)]))
            clear f0 y0 f1 y1 f2 y2 f3 y3 hbx hkX
            go_wp2
            go_meet
            exact ⟨(by first | trivial | rfl), x1o, x1n, x1c, x2o, x2n, x2c, x3o, x3n, x3c, hP.out.2.1, hPV, hP.out.2.2⟩
          refine AllReadyH.cons (o := { dst := some 99, op := Op.buildSlice 23 1 #[(0, Operand.tmp 98)], type := 23, pos := "law.go:82", after := #[{ on := 8, ground := Ground.data }], guard := none }) rfl (fun K hK => ?_) AllReadyH.nil
          go_simp
          have hS9 := hide' (hS1.out.over ((Below.refl _ v1).alloc (Nat.le_refl _) (.cells #[.int .i64 (x : Int)] 3))); have hq9 := hide' (hq1.out.below ((Below.refl _ v1).alloc (Nat.le_refl _) (.cells #[.int .i64 (x : Int)] 3))); have hc9 := hide' ((Bo.new v1 (.int .i64 (x : Int)) 3).c); (try dsimp only)
          refine hK.out _ _ ?_ (fun hHeld => ?_)
          · exact hSS.out _ _ _ _ hS9.out.d
          clear hK K
          try simp only [Act.put, List.setIfInBounds_toArray, List.set_cons_zero, List.set_cons_succ]
          refine wpAnyH_ready (rs := [4]) (by kernel_rfl) (by simp) ?_
          refine AllReadyH.cons (o := { dst := some 94, op := Op.call { callee := Callee.value (Operand.func 18), args := #[Operand.tmp 92, Operand.tmp 93], argTypes := #[3, 23] }, type := 23, pos := "law.go:82", after := #[{ on := 2, ground := Ground.data }, { on := 3, ground := Ground.data }, { on := 1, ground := Ground.chain }], guard := none }) rfl (fun K hK => ?_) AllReadyH.nil
          go_simp
          go_at_call 18; refine (K4.out _ _ _ _ hS9.out.d).mono ?_; rintro e v4 ⟨o4, k4, rfl, hO4_4, hb4⟩; have hS4 := hide' (hS9.out.over hb4.out); have hq4 := hide' (hq9.out.below hb4.out); have hc4 := hide' (M.cell_over hc9.out hb4.out); have hBp := hide' hb4.out; have hSp := hS9; have hqp := hq9; (try dsimp only)
          refine hK.out _ _ ?_ (fun hHeld => ?_)
          · exact hSS.out _ _ _ _ hS4.out.d
          clear hK K
          try simp only [Act.put, List.setIfInBounds_toArray, List.set_cons_zero, List.set_cons_succ]
          refine wpAnyH_ready (rs := [10]) (by kernel_rfl) (by simp) ?_
          refine AllReadyH.cons (o := { dst := some 100, op := Op.call { callee := Callee.builtin Builtin.append, args := #[Operand.tmp 94, Operand.tmp 99], argTypes := #[23, 23] }, type := 23, pos := "law.go:82", after := #[{ on := 4, ground := Ground.data }, { on := 9, ground := Ground.data }, { on := 4, ground := Ground.chain }], guard := none }) rfl (fun K hK => ?_) AllReadyH.nil
          rw [if_pos (by rfl)]
          refine app_oneC _ _ _ _ RA _ x RX hRX'.out _ rfl rfl rfl hO4_4.out hc4.out (by omega) (by have := hBp.out.size; first | exact this | (simp; omega) | omega) ?_; intro oA kA v10 hOA_10 hbA; have hBA := hide' (hBp.out.trans hbA.out); have hS10 := hide' (hSp.out.over hBA.out); have hq10 := hide' (hqp.out.below hBA.out); (try dsimp only)
          refine hK.out _ _ ?_ (fun hHeld => ?_)
          · exact hSS.out _ _ _ _ hS10.out.d
          clear hK K
          try simp only [Act.put, List.setIfInBounds_toArray, List.set_cons_zero, List.set_cons_succ]
          refine wpAnyH_ready (rs := [13]) (by kernel_rfl) (by simp) ?_
          refine AllReadyH.cons (o := { dst := some 103, op := Op.call { callee := Callee.value (Operand.func 18), args := #[Operand.tmp 101, Operand.tmp 102], argTypes := #[3, 23] }, type := 23, pos := "law.go:82", after := #[{ on := 11, ground := Ground.data }, { on := 12, ground := Ground.data }, { on := 10, ground := Ground.chain }], guard := none }) rfl (fun K hK => ?_) AllReadyH.nil
          go_simp
          go_at_call 18; refine (K5.out _ _ _ _ hS10.out.d).mono ?_; rintro e v13 ⟨o13, k13, rfl, hO13_13, hb13⟩; have hS13 := hide' (hS10.out.over hb13.out); have hq13 := hide' (hq10.out.below hb13.out); have hOA_13 := hide' (own_below hOA_10.out hb13.out (Nat.le_refl _)); (try dsimp only)
          refine hK.out _ _ ?_ (fun hHeld => ?_)
          · exact hSS.out _ _ _ _ hS13.out.d
          clear hK K
          try simp only [Act.put, List.setIfInBounds_toArray, List.set_cons_zero, List.set_cons_succ]
          refine wpAnyH_ready (rs := [14]) (by kernel_rfl) (by simp) ?_
          refine AllReadyH.cons (o := { dst := some 104, op := Op.call { callee := Callee.value (Operand.func 17), args := #[Operand.tmp 91, Operand.tmp 100, Operand.tmp 103], argTypes := #[26, 23, 23] }, type := 42, pos := "law.go:82", after := #[{ on := 1, ground := Ground.data }, { on := 10, ground := Ground.data }, { on := 13, ground := Ground.data }, { on := 13, ground := Ground.chain }], guard := none }) rfl (fun K hK => ?_) AllReadyH.nil
          go_simp
          go_at_call 17; refine (KX.out _ _ _ _ _ _ hq13.out (RowI.of_owns hOA_13.out) (RowI.of_owns hO13_13.out)).mono ?_; rintro e v14 ⟨x1o, x1n, x1c, x2o, x2n, x2c, x3o, x3n, x3c, rfl, hX14, hb14, _, hkX⟩; have hS14 := hide' (hS13.out.over hb14.out); have hz14 := hS13.out.lt; obtain ⟨ub, xb, yb, zb, hbx⟩ := hS14.out.bx; have f0 := hbx.frz 0; have y0 := hbx.c0; have f1 := (hbx.s0C X.users).frz 1; have y1 := (hbx.s0C X.users).c1; have f2 := ((hbx.s0C X.users).s1 (.slice x1o x1n x1c)).frz 2; have y2 := ((hbx.s0C X.users).s1 (.slice x1o x1n x1c)).c2; have f3 := (((hbx.s0C X.users).s1 (.slice x1o x1n x1c)).s2 (.slice x2o x2n x2c)).frz 3; have y3 := (((hbx.s0C X.users).s1 (.slice x1o x1n x1c)).s2 (.slice x2o x2n x2c)).c3; have hP := hide' (hS14.out.put X (.slice x1o x1n x1c) (.slice x2o x2n x2c) (.slice x3o x3n x3c)); (try dsimp only)
          refine hK.out _ _ ?_ (fun hHeld => ?_)
          · exact hSS.out _ _ _ _ hS14.out.d
          clear hK K
          try simp only [Act.put, List.setIfInBounds_toArray, List.set_cons_zero, List.set_cons_succ]
          refine wpAnyH_take (i := 15) (oi := { dst := some 89, op := Op.move (Operand.tmp 104), type := 42, pos := "law.go:82", after := #[{ on := 14, ground := Ground.data }], guard := none }) (v := ?_) rfl (by kernel_rfl) (by kernel_rfl) (by kernel_rfl) (fun _ _ _ h => h) (Or.inl ⟨by rfl, ?_⟩) (by assumption) ?_
          rotate_left
          · intro w hSw; (try dsimp only at hSw); go_simp <;> with_reducible rfl
          simp only [Act.put, List.setIfInBounds_toArray, List.set_cons_zero, List.set_cons_succ]
          refine wpAnyH_take (i := 16) (oi := { dst := some 105, op := Op.extract (Operand.tmp 89) 0, type := 26, pos := "law.go:82", after := #[{ on := 15, ground := Ground.data }], guard := none }) (v := ?_) rfl (by kernel_rfl) (by kernel_rfl) (by kernel_rfl) (fun _ _ _ h => h) (Or.inl ⟨by rfl, ?_⟩) (by assumption) ?_
          rotate_left
          · intro w hSw; (try dsimp only at hSw); go_simp <;> with_reducible rfl
          simp only [Act.put, List.setIfInBounds_toArray, List.set_cons_zero, List.set_cons_succ]
          refine wpAnyH_take (i := 17) (oi := { dst := some 106, op := Op.extract (Operand.tmp 89) 1, type := 31, pos := "law.go:82", after := #[{ on := 15, ground := Ground.data }, { on := 18, ground := Ground.gcOnly Departure.lateStores }], guard := none }) (v := ?_) rfl (by kernel_rfl) (by kernel_rfl) (by kernel_rfl) (fun _ _ _ h => h) (Or.inl ⟨by rfl, ?_⟩) (by assumption) ?_
          rotate_left
          · intro w hSw; (try dsimp only at hSw); go_simp <;> with_reducible rfl
          simp only [Act.put, List.setIfInBounds_toArray, List.set_cons_zero, List.set_cons_succ]
          refine wpAnyH_ready (rs := [18]) (by kernel_rfl) (by simp) ?_
          refine AllReadyH.cons (o := { dst := none, op := Op.store 26 (Operand.tmp 10) (Operand.tmp 105), type := 0, pos := "law.go:82", after := #[{ on := 16, ground := Ground.data }, { on := 14, ground := Ground.chain }, { on := 0, ground := Ground.phase }, { on := 1, ground := Ground.phase }, { on := 2, ground := Ground.phase }, { on := 3, ground := Ground.phase }, { on := 4, ground := Ground.phase }, { on := 5, ground := Ground.phase }, { on := 6, ground := Ground.phase }, { on := 7, ground := Ground.phase }, { on := 8, ground := Ground.phase }, { on := 9, ground := Ground.phase }, { on := 10, ground := Ground.phase }, { on := 11, ground := Ground.phase }, { on := 12, ground := Ground.phase }, { on := 13, ground := Ground.phase }, { on := 14, ground := Ground.phase }, { on := 15, ground := Ground.phase }, { on := 16, ground := Ground.phase }, { on := 17, ground := Ground.textOnly Departure.lateStores }], guard := none }) rfl (fun K hK => ?_) AllReadyH.nil
          go_simp
          refine hK.out _ _ ?_ (fun hHeld => ?_)
          · exact hSS.out _ _ _ _ hP.out.2.1.d
          clear hK K
          try simp only [Act.put, List.setIfInBounds_toArray, List.set_cons_zero, List.set_cons_succ]
          refine wpAnyH_take (i := 19) (oi := { dst := some 11, op := Op.assign (Operand.tmp 106), type := 31, pos := "law.go:82", after := #[{ on := 17, ground := Ground.data }, { on := 18, ground := Ground.chain }, { on := 0, ground := Ground.phase }, { on := 1, ground := Ground.phase }, { on := 2, ground := Ground.phase }, { on := 3, ground := Ground.phase }, { on := 4, ground := Ground.phase }, { on := 5, ground := Ground.phase }, { on := 6, ground := Ground.phase }, { on := 7, ground := Ground.phase }, { on := 8, ground := Ground.phase }, { on := 9, ground := Ground.phase }, { on := 10, ground := Ground.phase }, { on := 11, ground := Ground.phase }, { on := 12, ground := Ground.phase }, { on := 13, ground := Ground.phase }, { on := 14, ground := Ground.phase }, { on := 15, ground := Ground.phase }, { on := 16, ground := Ground.phase }, { on := 17, ground := Ground.phase }, { on := 18, ground := Ground.phase }], guard := none }) (v := ?_) rfl (by kernel_rfl) (by kernel_rfl) (by kernel_rfl) (fun _ _ _ h => h) (Or.inl ⟨by rfl, ?_⟩) (by assumption) ?_
          rotate_left
          · intro w hSw; (try dsimp only at hSw); go_simp <;> with_reducible rfl
          simp only [Act.put, List.setIfInBounds_toArray, List.set_cons_zero, List.set_cons_succ]
          refine wpAnyH_done (by kernel_rfl) ?_ _
          skip
          have hPV := hide' (hkX.out ((((v14.setCell ⟨V0.heap.size, 0, none⟩ (.int .i64 X.users)).setCell ⟨V0.heap.size, 1, none⟩ (.slice x1o x1n x1c)).setCell ⟨V0.heap.size, 2, none⟩ (.slice x2o x2n x2c)).setCell ⟨V0.heap.size, 3, none⟩ (.slice x3o x3n x3c)) (fun k h1 _ => by rw [Below.heap_setCell _ _ _ _ (by show k ≠ V0.heap.size; omega), Below.heap_setCell _ _ _ _ (by show k ≠ V0.heap.size; omega), Below.heap_setCell _ _ _ _ (by show k ≠ V0.heap.size; omega), Below.heap_setCell _ _ _ _ (by show k ≠ V0.heap.size; omega)]))
          clear f0 y0 f1 y1 f2 y2 f3 y3 hbx hkX
          go_wp2
          go_meet
          exact ⟨(by first | trivial | rfl), x1o, x1n, x1c, x2o, x2n, x2c, x3o, x3n, x3c, hP.out.2.1, hPV, hP.out.2.2⟩
        refine AllReadyH.cons (o := { dst := some 99, op := Op.buildSlice 23 1 #[(0, Operand.tmp 98)], type := 23, pos := "law.go:82", after := #[{ on := 8, ground := Ground.data }], guard := none }) rfl (fun K hK => ?_) AllReadyH.nil
        go_simp
        have hS9 := hide' (hSd.out.over ((Below.refl _ wr.drew).alloc (Nat.le_refl _) (.cells #[.int .i64 (x : Int)] 3))); have hc9 := hide' ((Bo.new wr.drew (.int .i64 (x : Int)) 3).c); (try dsimp only)
        refine hK.out _ _ ?_ (fun hHeld => ?_)
        · exact hSS.out _ _ _ _ hS9.out.d
        clear hK K
        try simp only [Act.put, List.setIfInBounds_toArray, List.set_cons_zero, List.set_cons_succ]
        refine wpAnyH_ready (rs := [1]) (by kernel_rfl) (by simp) ?_
        refine AllReadyH.cons (o := { dst := some 91, op := Op.call { callee := Callee.value (Operand.func 7), args := #[Operand.tmp 90], argTypes := #[26] }, type := 26, pos := "law.go:82", after := #[{ on := 0, ground := Ground.data }], guard := none }) rfl (fun K hK => ?_) AllReadyH.nil
        go_simp
        go_at_call 7; refine (K1.out _ _ _ _ hS9.out.d).mono ?_; rintro e v1 ⟨va, vb, vc, rfl, hq1, hb1, _⟩; have hS1 := hide' (hS9.out.over hb1.out); have hc1 := hide' (M.cell_over hc9.out hb1.out); (try dsimp only)
        refine hK.out _ _ ?_ (fun hHeld => ?_)
        · exact hSS.out _ _ _ _ hS1.out.d
        clear hK K
        try simp only [Act.put, List.setIfInBounds_toArray, List.set_cons_zero, List.set_cons_succ]
        refine wpAnyH_ready (rs := [4]) (by kernel_rfl) (by simp) ?_
        refine AllReadyH.cons (o := { dst := some 94, op := Op.call { callee := Callee.value (Operand.func 18), args := #[Operand.tmp 92, Operand.tmp 93], argTypes := #[3, 23] }, type := 23, pos := "law.go:82", after := #[{ on := 2, ground := Ground.data }, { on := 3, ground := Ground.data }, { on := 1, ground := Ground.chain }], guard := none }) rfl (fun K hK => ?_) AllReadyH.nil
        go_simp
        go_at_call 18; refine (K4.out _ _ _ _ hS1.out.d).mono ?_; rintro e v4 ⟨o4, k4, rfl, hO4_4, hb4⟩; have hS4 := hide' (hS1.out.over hb4.out); have hq4 := hide' (hq1.out.below hb4.out); have hc4 := hide' (M.cell_over hc1.out hb4.out); have hBp := hide' hb4.out; have hSp := hS1; have hqp := hq1; (try dsimp only)
        refine hK.out _ _ ?_ (fun hHeld => ?_)
        · exact hSS.out _ _ _ _ hS4.out.d
        clear hK K
        try simp only [Act.put, List.setIfInBounds_toArray, List.set_cons_zero, List.set_cons_succ]
        refine wpAnyH_ready (rs := [10]) (by kernel_rfl) (by simp) ?_
        refine AllReadyH.cons (o := { dst := some 100, op := Op.call { callee := Callee.builtin Builtin.append, args := #[Operand.tmp 94, Operand.tmp 99], argTypes := #[23, 23] }, type := 23, pos := "law.go:82", after := #[{ on := 4, ground := Ground.data }, { on := 9, ground := Ground.data }, { on := 4, ground := Ground.chain }], guard := none }) rfl (fun K hK => ?_) AllReadyH.nil
        rw [if_pos (by rfl)]
        refine app_oneC _ _ _ _ RA _ x RX hRX'.out _ rfl rfl rfl hO4_4.out hc4.out (by omega) (by have := hBp.out.size; first | exact this | (simp; omega) | omega) ?_; intro oA kA v10 hOA_10 hbA; have hBA := hide' (hBp.out.trans hbA.out); have hS10 := hide' (hSp.out.over hBA.out); have hq10 := hide' (hqp.out.below hBA.out); (try dsimp only)
        refine hK.out _ _ ?_ (fun hHeld => ?_)
        · exact hSS.out _ _ _ _ hS10.out.d
        clear hK K
        try simp only [Act.put, List.setIfInBounds_toArray, List.set_cons_zero, List.set_cons_succ]
        refine wpAnyH_ready (rs := [13]) (by kernel_rfl) (by simp) ?_
        refine AllReadyH.cons (o := { dst := some 103, op := Op.call { callee := Callee.value (Operand.func 18), args := #[Operand.tmp 101, Operand.tmp 102], argTypes := #[3, 23] }, type := 23, pos := "law.go:82", after := #[{ on := 11, ground := Ground.data }, { on := 12, ground := Ground.data }, { on := 10, ground := Ground.chain }], guard := none }) rfl (fun K hK => ?_) AllReadyH.nil
        go_simp
        go_at_call 18; refine (K5.out _ _ _ _ hS10.out.d).mono ?_; rintro e v13 ⟨o13, k13, rfl, hO13_13, hb13⟩; have hS13 := hide' (hS10.out.over hb13.out); have hq13 := hide' (hq10.out.below hb13.out); have hOA_13 := hide' (own_below hOA_10.out hb13.out (Nat.le_refl _)); (try dsimp only)
        refine hK.out _ _ ?_ (fun hHeld => ?_)
        · exact hSS.out _ _ _ _ hS13.out.d
        clear hK K
        try simp only [Act.put, List.setIfInBounds_toArray, List.set_cons_zero, List.set_cons_succ]
        refine wpAnyH_ready (rs := [14]) (by kernel_rfl) (by simp) ?_
        refine AllReadyH.cons (o := { dst := some 104, op := Op.call { callee := Callee.value (Operand.func 17), args := #[Operand.tmp 91, Operand.tmp 100, Operand.tmp 103], argTypes := #[26, 23, 23] }, type := 42, pos := "law.go:82", after := #[{ on := 1, ground := Ground.data }, { on := 10, ground := Ground.data }, { on := 13, ground := Ground.data }, { on := 13, ground := Ground.chain }], guard := none }) rfl (fun K hK => ?_) AllReadyH.nil
        go_simp
        go_at_call 17; refine (KX.out _ _ _ _ _ _ hq13.out (RowI.of_owns hOA_13.out) (RowI.of_owns hO13_13.out)).mono ?_; rintro e v14 ⟨x1o, x1n, x1c, x2o, x2n, x2c, x3o, x3n, x3c, rfl, hX14, hb14, _, hkX⟩; have hS14 := hide' (hS13.out.over hb14.out); have hz14 := hS13.out.lt; obtain ⟨ub, xb, yb, zb, hbx⟩ := hS14.out.bx; have f0 := hbx.frz 0; have y0 := hbx.c0; have f1 := (hbx.s0C X.users).frz 1; have y1 := (hbx.s0C X.users).c1; have f2 := ((hbx.s0C X.users).s1 (.slice x1o x1n x1c)).frz 2; have y2 := ((hbx.s0C X.users).s1 (.slice x1o x1n x1c)).c2; have f3 := (((hbx.s0C X.users).s1 (.slice x1o x1n x1c)).s2 (.slice x2o x2n x2c)).frz 3; have y3 := (((hbx.s0C X.users).s1 (.slice x1o x1n x1c)).s2 (.slice x2o x2n x2c)).c3; have hP := hide' (hS14.out.put X (.slice x1o x1n x1c) (.slice x2o x2n x2c) (.slice x3o x3n x3c)); (try dsimp only)
        refine hK.out _ _ ?_ (fun hHeld => ?_)
        · exact hSS.out _ _ _ _ hS14.out.d
        clear hK K
        try simp only [Act.put, List.setIfInBounds_toArray, List.set_cons_zero, List.set_cons_succ]
        refine wpAnyH_take (i := 15) (oi := { dst := some 89, op := Op.move (Operand.tmp 104), type := 42, pos := "law.go:82", after := #[{ on := 14, ground := Ground.data }], guard := none }) (v := ?_) rfl (by kernel_rfl) (by kernel_rfl) (by kernel_rfl) (fun _ _ _ h => h) (Or.inl ⟨by rfl, ?_⟩) (by assumption) ?_
        rotate_left
        · intro w hSw; (try dsimp only at hSw); go_simp <;> with_reducible rfl
        simp only [Act.put, List.setIfInBounds_toArray, List.set_cons_zero, List.set_cons_succ]
        refine wpAnyH_take (i := 16) (oi := { dst := some 105, op := Op.extract (Operand.tmp 89) 0, type := 26, pos := "law.go:82", after := #[{ on := 15, ground := Ground.data }], guard := none }) (v := ?_) rfl (by kernel_rfl) (by kernel_rfl) (by kernel_rfl) (fun _ _ _ h => h) (Or.inl ⟨by rfl, ?_⟩) (by assumption) ?_
        rotate_left
        · intro w hSw; (try dsimp only at hSw); go_simp <;> with_reducible rfl
        simp only [Act.put, List.setIfInBounds_toArray, List.set_cons_zero, List.set_cons_succ]
        refine wpAnyH_take (i := 17) (oi := { dst := some 106, op := Op.extract (Operand.tmp 89) 1, type := 31, pos := "law.go:82", after := #[{ on := 15, ground := Ground.data }, { on := 18, ground := Ground.gcOnly Departure.lateStores }], guard := none }) (v := ?_) rfl (by kernel_rfl) (by kernel_rfl) (by kernel_rfl) (fun _ _ _ h => h) (Or.inl ⟨by rfl, ?_⟩) (by assumption) ?_
        rotate_left
        · intro w hSw; (try dsimp only at hSw); go_simp <;> with_reducible rfl
        simp only [Act.put, List.setIfInBounds_toArray, List.set_cons_zero, List.set_cons_succ]
        refine wpAnyH_ready (rs := [18]) (by kernel_rfl) (by simp) ?_
        refine AllReadyH.cons (o := { dst := none, op := Op.store 26 (Operand.tmp 10) (Operand.tmp 105), type := 0, pos := "law.go:82", after := #[{ on := 16, ground := Ground.data }, { on := 14, ground := Ground.chain }, { on := 0, ground := Ground.phase }, { on := 1, ground := Ground.phase }, { on := 2, ground := Ground.phase }, { on := 3, ground := Ground.phase }, { on := 4, ground := Ground.phase }, { on := 5, ground := Ground.phase }, { on := 6, ground := Ground.phase }, { on := 7, ground := Ground.phase }, { on := 8, ground := Ground.phase }, { on := 9, ground := Ground.phase }, { on := 10, ground := Ground.phase }, { on := 11, ground := Ground.phase }, { on := 12, ground := Ground.phase }, { on := 13, ground := Ground.phase }, { on := 14, ground := Ground.phase }, { on := 15, ground := Ground.phase }, { on := 16, ground := Ground.phase }, { on := 17, ground := Ground.textOnly Departure.lateStores }], guard := none }) rfl (fun K hK => ?_) AllReadyH.nil
        go_simp
        refine hK.out _ _ ?_ (fun hHeld => ?_)
        · exact hSS.out _ _ _ _ hP.out.2.1.d
        clear hK K
        try simp only [Act.put, List.setIfInBounds_toArray, List.set_cons_zero, List.set_cons_succ]
        refine wpAnyH_take (i := 19) (oi := { dst := some 11, op := Op.assign (Operand.tmp 106), type := 31, pos := "law.go:82", after := #[{ on := 17, ground := Ground.data }, { on := 18, ground := Ground.chain }, { on := 0, ground := Ground.phase }, { on := 1, ground := Ground.phase }, { on := 2, ground := Ground.phase }, { on := 3, ground := Ground.phase }, { on := 4, ground := Ground.phase }, { on := 5, ground := Ground.phase }, { on := 6, ground := Ground.phase }, { on := 7, ground := Ground.phase }, { on := 8, ground := Ground.phase }, { on := 9, ground := Ground.phase }, { on := 10, ground := Ground.phase }, { on := 11, ground := Ground.phase }, { on := 12, ground := Ground.phase }, { on := 13, ground := Ground.phase }, { on := 14, ground := Ground.phase }, { on := 15, ground := Ground.phase }, { on := 16, ground := Ground.phase }, { on := 17, ground := Ground.phase }, { on := 18, ground := Ground.phase }], guard := none }) (v := ?_) rfl (by kernel_rfl) (by kernel_rfl) (by kernel_rfl) (fun _ _ _ h => h) (Or.inl ⟨by rfl, ?_⟩) (by assumption) ?_
        rotate_left
        · intro w hSw; (try dsimp only at hSw); go_simp <;> with_reducible rfl
        simp only [Act.put, List.setIfInBounds_toArray, List.set_cons_zero, List.set_cons_succ]
        refine wpAnyH_done (by kernel_rfl) ?_ _
        skip
        have hPV := hide' (hkX.out ((((v14.setCell ⟨V0.heap.size, 0, none⟩ (.int .i64 X.users)).setCell ⟨V0.heap.size, 1, none⟩ (.slice x1o x1n x1c)).setCell ⟨V0.heap.size, 2, none⟩ (.slice x2o x2n x2c)).setCell ⟨V0.heap.size, 3, none⟩ (.slice x3o x3n x3c)) (fun k h1 _ => by rw [Below.heap_setCell _ _ _ _ (by show k ≠ V0.heap.size; omega), Below.heap_setCell _ _ _ _ (by show k ≠ V0.heap.size; omega), Below.heap_setCell _ _ _ _ (by show k ≠ V0.heap.size; omega), Below.heap_setCell _ _ _ _ (by show k ≠ V0.heap.size; omega)]))
        clear f0 y0 f1 y1 f2 y2 f3 y3 hbx hkX
        go_wp2
        go_meet
        exact ⟨(by first | trivial | rfl), x1o, x1n, x1c, x2o, x2n, x2c, x3o, x3n, x3c, hP.out.2.1, hPV, hP.out.2.2⟩
      case rest =>
        clear hX
        obtain ⟨he, x1o, x1n, x1c, x2o, x2n, x2c, x3o, x3n, x3c, hX, hXV, hXQ⟩ := hcut
        subst he
        have p0 := hXQ.out.c0
        have p1 := hXQ.out.c1
        have p2 := hXQ.out.c2
        have p3 := hXQ.out.c3
        clear KX hSS K1 K4 K5
        go_wp2_with fail
        refine (K3.out _ a0 b0 c0 X _ _ _ hX.out.d hXV.out hok.out (by have := hle.out; have := hQl.out; omega) (by have := hle.out; have := hQl.out; omega) (by have := hle.out; have := hQl.out; omega)).mono ?_
        rintro e w9 ⟨rfl, a9, b9, c9, hg9, hgc9, hf9⟩
        have hX9 := hide' (hX.out.frr hf9.out hg9.out)
        have hle9 := hide' (hgc9.out.le (by decide))
        rw [hcan.out]
        clear p0 p1 p2 p3 hX hXV hXQ hf9 hg9 hgc9 K3
        go_wp2
        exact ⟨⟨i + 1, a9, b9, c9, by omega, by go_num, hX9, by have := hle.out; have := hle9.out; show _ ∧ _ ∧ _; omega⟩, by simp [intOf]; omega⟩
    · obtain rfl : i = A.length := by omega
      clear hlt
      have hXt := hX
      have hXm : Hid (a0 ≤ 200000000000000 + 2000000000000 * 0 ∧ b0 ≤ 200000000000000 + 2000000000000 * 0 ∧ c0 ≤ 200000000000000 + 2000000000000 * 0) := by have := hle.out; have := hlA2.out; show _ ∧ _ ∧ _; omega
      clear hX hle
      go_wp2
      go_loopw [11, 13] (fun _ p wr => ∃ i a b c : Nat, i ≤ B.length ∧ p = .int .i64 (i : Int) ∧ Hid (Cx w Q (.slice ow Q.who.length cw) (.slice of Q.fixed.length cf) (.slice or Q.rules.length cr) g gs A B (.slice o1 A.length k1) (.slice o2 B.length k2) V0 a b c wr) ∧ Hid (a ≤ 200000000000000 + 2000000000000 * i ∧ b ≤ 200000000000000 + 2000000000000 * i ∧ c ≤ 200000000000000 + 2000000000000 * i)) (fun _ p _ => ((B.length : Int) - intOf p).toNat)
      case atStart => exact ⟨0, _, _, _, Nat.zero_le _, rfl, hXt, hXm⟩
      case round =>
        clear hXt hXm
        obtain ⟨i, a0, b0, c0, hi, rfl, hX, hle⟩ := hrel
        by_cases hlt : i < B.length
        · as_aux_lemma =>
          have hlt' : (i : Int) < (B.length : Int) := by omega
          have hi0 : ¬ (i : Int) < 0 := by omega
          obtain ⟨x, hx⟩ : ∃ x, B[i]? = some x := ⟨_, List.getElem?_eq_getElem hlt⟩
          have hAsk := hN.nb i x hx
          have hxI : (ints B)[i]? = some (x : Int) := by unfold ints; rw [List.getElem?_map, hx]; rfl
          obtain ⟨ga, oo, e1, hcx⟩ : ∃ ga oo, o2 = some ⟨ga, oo, none⟩ ∧ Hid (∀ V a b c, Cd w Q (.slice ow Q.who.length cw) (.slice of Q.fixed.length cf) (.slice or Q.rules.length cr) g gs A B (.slice o1 A.length k1) (.slice o2 B.length k2) a b c V → V.cell? ⟨ga, oo + i, none⟩ = some (.int .i64 (x : Int))) := by
            obtain ⟨oa2, cap2, e, _, hc⟩ := hX.out.d.rb
            obtain ⟨ga, oo, e2, e3⟩ := hc i _ hxI
            injection e with e4 e5 e6
            subst e4
            refine ⟨ga, oo, e2, fun V a b c hV => ?_⟩
            obtain ⟨oa3, cap3, e', _, hc'⟩ := hV.rb
            obtain ⟨ga', oo', e2', e3'⟩ := hc' i _ hxI
            injection e' with e4' e5' e6'
            rw [← e4', e2] at e2'
            cases e2'
            exact e3'
          subst e1
          obtain ⟨RX, hRX⟩ : ∃ l, l = RB ++ [x] := ⟨_, rfl⟩
          have hRX' := hide' hRX
          have hlX : RX.length ≤ 100 := by rw [hRX, List.length_append, List.length_singleton]; omega
          rw [← hRX] at hAsk
          clear hRX
          have KX : Hid (∀ V va vb vc vr vs, PbV V Q va vb vc → RowI V vr (ints (RA)) → RowI V vs (ints RX) → Calls Tryd.prog 17 #[.agg #[.int .i64 Q.users, va, vb, vc], vr, vs] V (WtP V (wtP Q (ints (RA)) (ints RX)) 0)) := fun V va vb vc vr vs hV h1 h2 => K6.out V va vb vc vr vs _ _ true hV h1 h2 (by rw [ints_len]; first | omega | (simp only [List.length_append, List.length_singleton]; omega)) (by rw [ints_len]; first | omega | (simp only [List.length_append, List.length_singleton]; omega)) hAsk
          have hok := hide' hAsk.ok
          have hcan := hide' hAsk.can
          unfold WtP at KX
          generalize wtP Q (ints (RA)) (ints RX) = X at *
          have hSS : Hid (∀ V a b c, Cd w Q (.slice ow Q.who.length cw) (.slice of Q.fixed.length cf) (.slice or Q.rules.length cr) g gs A B (.slice o1 A.length k1) (.slice (some ⟨ga, oo, none⟩) B.length k2) a b c V → (V.cell? ⟨g, 0, none⟩ = some (.int .i64 Q.users) ∧ V.cell? ⟨g, 1, none⟩ = some (.slice ow Q.who.length cw) ∧ V.cell? ⟨g, 2, none⟩ = some (.slice of Q.fixed.length cf) ∧ V.cell? ⟨g, 3, none⟩ = some (.slice or Q.rules.length cr)) ∧ V.cell? ⟨ga, oo + i, none⟩ = some (.int .i64 (x : Int))) := fun V a b c hV => ⟨⟨hV.s.pb.c0, hV.s.pb.c1, hV.s.pb.c2, hV.s.pb.c3⟩, hcx.out V a b c hV⟩
          clear hAsk hxI hcx hx K6 hN
          go_upto_region 22 with fail
          go_cut [11] from 121 to 139 (fun ev wx => ev = .int .i64 0 ∧ ∃ x1o x1n x1c x2o x2n x2c x3o x3n x3c, Hid (Cx w Q (.slice ow Q.who.length cw) (.slice of Q.fixed.length cf) (.slice or Q.rules.length cr) g gs A B (.slice o1 A.length k1) (.slice (some ⟨ga, oo, none⟩) B.length k2) V0 a0 b0 c0 wx) ∧ Hid (PbV wx X (.slice x1o x1n x1c) (.slice x2o x2n x2c) (.slice x3o x3n x3c)) ∧ Hid (QAt wx V0.heap.size X.users (.slice x1o x1n x1c) (.slice x2o x2n x2c) (.slice x3o x3n x3c)))
          case first =>
            as_aux_lemma =>
            have hSd := hide' (hX.out.over (Below.refl _ wr).drew)
            clear hX K3
            refine wp_region_held_drew (S := (fun V => (V.cell? ⟨g, 0, none⟩ = some (.int .i64 Q.users) ∧ V.cell? ⟨g, 1, none⟩ = some (.slice ow Q.who.length cw) ∧ V.cell? ⟨g, 2, none⟩ = some (.slice of Q.fixed.length cf) ∧ V.cell? ⟨g, 3, none⟩ = some (.slice or Q.rules.length cr)) ∧ V.cell? ⟨ga, oo + i, none⟩ = some (.int .i64 (x : Int)))) (by kernel_rfl) ?_ (fun hHeld => ?_)
            · exact hSS.out _ _ _ _ hSd.out.d
            refine wpAnyH_take (i := 0) (oi := { dst := some 122, op := Op.load 26 (Operand.tmp 3), type := 26, pos := "law.go:88", after := #[], guard := none }) (v := ?_) rfl (by kernel_rfl) (by kernel_rfl) (by kernel_rfl) (fun _ _ _ h => h) (Or.inl ⟨by rfl, ?_⟩) (by assumption) ?_
            rotate_left
            · intro w hSw; (try dsimp only at hSw); go_simp <;> with_reducible rfl
            simp only [Act.put, List.setIfInBounds_toArray, List.set_cons_zero, List.set_cons_succ]
            refine wpAnyH_take (i := 2) (oi := { dst := some 124, op := Op.move (Operand.tmp 8), type := 3, pos := "law.go:88", after := #[], guard := none }) (v := ?_) rfl (by kernel_rfl) (by kernel_rfl) (by kernel_rfl) (fun _ _ _ h => h) (Or.inl ⟨by rfl, ?_⟩) (by assumption) ?_
            rotate_left
            · intro w hSw; (try dsimp only at hSw); go_simp <;> with_reducible rfl
            simp only [Act.put, List.setIfInBounds_toArray, List.set_cons_zero, List.set_cons_succ]
            refine wpAnyH_take (i := 3) (oi := { dst := some 125, op := Op.move (Operand.tmp 4), type := 23, pos := "law.go:88", after := #[], guard := none }) (v := ?_) rfl (by kernel_rfl) (by kernel_rfl) (by kernel_rfl) (fun _ _ _ h => h) (Or.inl ⟨by rfl, ?_⟩) (by assumption) ?_
            rotate_left
            · intro w hSw; (try dsimp only at hSw); go_simp <;> with_reducible rfl
            simp only [Act.put, List.setIfInBounds_toArray, List.set_cons_zero, List.set_cons_succ]
            refine wpAnyH_take (i := 5) (oi := { dst := some 127, op := Op.move (Operand.tmp 9), type := 3, pos := "law.go:88", after := #[], guard := none }) (v := ?_) rfl (by kernel_rfl) (by kernel_rfl) (by kernel_rfl) (fun _ _ _ h => h) (Or.inl ⟨by rfl, ?_⟩) (by assumption) ?_
            rotate_left
            · intro w hSw; (try dsimp only at hSw); go_simp <;> with_reducible rfl
            simp only [Act.put, List.setIfInBounds_toArray, List.set_cons_zero, List.set_cons_succ]
            refine wpAnyH_take (i := 6) (oi := { dst := some 128, op := Op.move (Operand.tmp 5), type := 23, pos := "law.go:88", after := #[], guard := none }) (v := ?_) rfl (by kernel_rfl) (by kernel_rfl) (by kernel_rfl) (fun _ _ _ h => h) (Or.inl ⟨by rfl, ?_⟩) (by assumption) ?_
            rotate_left
            · intro w hSw; (try dsimp only at hSw); go_simp <;> with_reducible rfl
            simp only [Act.put, List.setIfInBounds_toArray, List.set_cons_zero, List.set_cons_succ]
            refine wpAnyH_take (i := 8) (oi := { dst := some 130, op := Op.move (Operand.tmp 5), type := 23, pos := "law.go:88", after := #[], guard := none }) (v := ?_) rfl (by kernel_rfl) (by kernel_rfl) (by kernel_rfl) (fun _ _ _ h => h) (Or.inl ⟨by rfl, ?_⟩) (by assumption) ?_
            rotate_left
            · intro w hSw; (try dsimp only at hSw); go_simp <;> with_reducible rfl
            simp only [Act.put, List.setIfInBounds_toArray, List.set_cons_zero, List.set_cons_succ]
            refine wpAnyH_take (i := 9) (oi := { dst := some 131, op := Op.move (Operand.tmp 13), type := 3, pos := "law.go:88", after := #[], guard := none }) (v := ?_) rfl (by kernel_rfl) (by kernel_rfl) (by kernel_rfl) (fun _ _ _ h => h) (Or.inl ⟨by rfl, ?_⟩) (by assumption) ?_
            rotate_left
            · intro w hSw; (try dsimp only at hSw); go_simp <;> with_reducible rfl
            simp only [Act.put, List.setIfInBounds_toArray, List.set_cons_zero, List.set_cons_succ]
            refine wpAnyH_take (i := 10) (oi := { dst := some 132, op := Op.indexAddr 23 (Operand.tmp 130) (Operand.tmp 131), type := 0, pos := "law.go:88", after := #[{ on := 8, ground := Ground.data }, { on := 9, ground := Ground.data }], guard := none }) (v := ?_) rfl (by kernel_rfl) (by kernel_rfl) (by kernel_rfl) (fun _ _ _ h => h) (Or.inl ⟨by rfl, ?_⟩) (by assumption) ?_
            rotate_left
            · intro w hSw; (try dsimp only at hSw); go_simp <;> with_reducible rfl
            simp only [Act.put, List.setIfInBounds_toArray, List.set_cons_zero, List.set_cons_succ]
            refine wpAnyH_take (i := 11) (oi := { dst := some 133, op := Op.load 3 (Operand.tmp 132), type := 3, pos := "law.go:88", after := #[{ on := 10, ground := Ground.data }], guard := none }) (v := ?_) rfl (by kernel_rfl) (by kernel_rfl) (by kernel_rfl) (fun _ _ _ h => h) (Or.inl ⟨by rfl, ?_⟩) (by assumption) ?_
            rotate_left
            · intro w hSw; (try dsimp only at hSw); go_simp <;> with_reducible rfl
            simp only [Act.put, List.setIfInBounds_toArray, List.set_cons_zero, List.set_cons_succ]
            refine wpAnyH_ready (rs := [1, 12]) (by kernel_rfl) (by simp) ?_
            refine AllReadyH.cons (o := { dst := some 123, op := Op.call { callee := Callee.value (Operand.func 7), args := #[Operand.tmp 122], argTypes := #[26] }, type := 26, pos := "law.go:88", after := #[{ on := 0, ground := Ground.data }], guard := none }) rfl (fun K hK => ?_) ?_
            · skip
              go_simp
              go_at_call 7; refine (K1.out _ _ _ _ hSd.out.d).mono ?_; rintro e v1 ⟨va, vb, vc, rfl, hq1, hb1, _⟩; have hS1 := hide' (hSd.out.over hb1.out); (try dsimp only)
              refine hK.out _ _ ?_ (fun hHeld => ?_)
              · exact hSS.out _ _ _ _ hS1.out.d
              clear hK K
              try simp only [Act.put, List.setIfInBounds_toArray, List.set_cons_zero, List.set_cons_succ]
              refine wpAnyH_ready (rs := [4, 12]) (by kernel_rfl) (by simp) ?_
              refine AllReadyH.cons (o := { dst := some 126, op := Op.call { callee := Callee.value (Operand.func 18), args := #[Operand.tmp 124, Operand.tmp 125], argTypes := #[3, 23] }, type := 23, pos := "law.go:88", after := #[{ on := 2, ground := Ground.data }, { on := 3, ground := Ground.data }, { on := 1, ground := Ground.chain }], guard := none }) rfl (fun K hK => ?_) ?_
              · skip
                go_simp
                go_at_call 18; refine (K4.out _ _ _ _ hS1.out.d).mono ?_; rintro e v4 ⟨o4, k4, rfl, hO4_4, hb4⟩; have hS4 := hide' (hS1.out.over hb4.out); have hq4 := hide' (hq1.out.below hb4.out); (try dsimp only)
                refine hK.out _ _ ?_ (fun hHeld => ?_)
                · exact hSS.out _ _ _ _ hS4.out.d
                clear hK K
                try simp only [Act.put, List.setIfInBounds_toArray, List.set_cons_zero, List.set_cons_succ]
                refine wpAnyH_ready (rs := [7, 12]) (by kernel_rfl) (by simp) ?_
                refine AllReadyH.cons (o := { dst := some 129, op := Op.call { callee := Callee.value (Operand.func 18), args := #[Operand.tmp 127, Operand.tmp 128], argTypes := #[3, 23] }, type := 23, pos := "law.go:88", after := #[{ on := 5, ground := Ground.data }, { on := 6, ground := Ground.data }, { on := 4, ground := Ground.chain }], guard := none }) rfl (fun K hK => ?_) ?_
                · skip
                  go_simp
                  go_at_call 18; refine (K5.out _ _ _ _ hS4.out.d).mono ?_; rintro e v7 ⟨o7, k7, rfl, hO7_7, hb7⟩; have hS7 := hide' (hS4.out.over hb7.out); have hq7 := hide' (hq4.out.below hb7.out); have hO4_7 := hide' (own_below hO4_4.out hb7.out (Nat.le_refl _)); have hBp := hide' hb7.out; have hSp := hS4; have hqp := hq4; have hOp4 := hO4_4; (try dsimp only)
                  refine hK.out _ _ ?_ (fun hHeld => ?_)
                  · exact hSS.out _ _ _ _ hS7.out.d
                  clear hK K
                  try simp only [Act.put, List.setIfInBounds_toArray, List.set_cons_zero, List.set_cons_succ]
                  refine wpAnyH_ready (rs := [12]) (by kernel_rfl) (by simp) ?_
                  refine AllReadyH.cons (o := { dst := some 134, op := Op.buildSlice 23 1 #[(0, Operand.tmp 133)], type := 23, pos := "law.go:88", after := #[{ on := 11, ground := Ground.data }], guard := none }) rfl (fun K hK => ?_) AllReadyH.nil
                  go_simp
                  have hS12 := hide' (hS7.out.over ((Below.refl _ v7).alloc (Nat.le_refl _) (.cells #[.int .i64 (x : Int)] 3))); have hq12 := hide' (hq7.out.below ((Below.refl _ v7).alloc (Nat.le_refl _) (.cells #[.int .i64 (x : Int)] 3))); have hc12 := hide' ((Bo.new v7 (.int .i64 (x : Int)) 3).c); have hO4_12 := hide' (own_below hO4_7.out ((Below.refl _ v7).alloc (Nat.le_refl _) (.cells #[.int .i64 (x : Int)] 3)) (Nat.le_refl _)); have hO7_12 := hide' (own_below hO7_7.out ((Below.refl _ v7).alloc (Nat.le_refl _) (.cells #[.int .i64 (x : Int)] 3)) (Nat.le_refl _)); have hBp := hide' (hBp.out.alloc (hBp.out.size) (.cells #[.int .i64 (x : Int)] 3)); (try dsimp only)
                  refine hK.out _ _ ?_ (fun hHeld => ?_)
                  · exact hSS.out _ _ _ _ hS12.out.d
                  clear hK K
                  try simp only [Act.put, List.setIfInBounds_toArray, List.set_cons_zero, List.set_cons_succ]
                  refine wpAnyH_ready (rs := [13]) (by kernel_rfl) (by simp) ?_
                  refine AllReadyH.cons (o := { dst := some 135, op := Op.call { callee := Callee.builtin Builtin.append, args := #[Operand.tmp 129, Operand.tmp 134], argTypes := #[23, 23] }, type := 23, pos := "law.go:88", after := #[{ on := 7, ground := Ground.data }, { on := 12, ground := Ground.data }, { on := 7, ground := Ground.chain }], guard := none }) rfl (fun K hK => ?_) AllReadyH.nil
                  rw [if_pos (by rfl)]
                  refine app_oneC _ _ _ _ RB _ x RX hRX'.out _ rfl rfl rfl hO7_12.out hc12.out (by omega) (by have := hBp.out.size; first | exact this | (simp; omega) | omega) ?_; intro oA kA v13 hOA_13 hbA; have hBA := hide' (hBp.out.trans hbA.out); have hS13 := hide' (hSp.out.over hBA.out); have hq13 := hide' (hqp.out.below hBA.out); have hO4_13 := hide' (own_below hOp4.out hBA.out (Nat.le_refl _)); (try dsimp only)
                  refine hK.out _ _ ?_ (fun hHeld => ?_)
                  · exact hSS.out _ _ _ _ hS13.out.d
                  clear hK K
                  try simp only [Act.put, List.setIfInBounds_toArray, List.set_cons_zero, List.set_cons_succ]
                  refine wpAnyH_ready (rs := [14]) (by kernel_rfl) (by simp) ?_
                  refine AllReadyH.cons (o := { dst := some 136, op := Op.call { callee := Callee.value (Operand.func 17), args := #[Operand.tmp 123, Operand.tmp 126, Operand.tmp 135], argTypes := #[26, 23, 23] }, type := 42, pos := "law.go:88", after := #[{ on := 1, ground := Ground.data }, { on := 4, ground := Ground.data }, { on := 13, ground := Ground.data }, { on := 13, ground := Ground.chain }], guard := none }) rfl (fun K hK => ?_) AllReadyH.nil
                  go_simp
                  go_at_call 17; refine (KX.out _ _ _ _ _ _ hq13.out (RowI.of_owns hO4_13.out) (RowI.of_owns hOA_13.out)).mono ?_; rintro e v14 ⟨x1o, x1n, x1c, x2o, x2n, x2c, x3o, x3n, x3c, rfl, hX14, hb14, _, hkX⟩; have hS14 := hide' (hS13.out.over hb14.out); have hz14 := hS13.out.lt; obtain ⟨ub, xb, yb, zb, hbx⟩ := hS14.out.bx; have f0 := hbx.frz 0; have y0 := hbx.c0; have f1 := (hbx.s0C X.users).frz 1; have y1 := (hbx.s0C X.users).c1; have f2 := ((hbx.s0C X.users).s1 (.slice x1o x1n x1c)).frz 2; have y2 := ((hbx.s0C X.users).s1 (.slice x1o x1n x1c)).c2; have f3 := (((hbx.s0C X.users).s1 (.slice x1o x1n x1c)).s2 (.slice x2o x2n x2c)).frz 3; have y3 := (((hbx.s0C X.users).s1 (.slice x1o x1n x1c)).s2 (.slice x2o x2n x2c)).c3; have hP := hide' (hS14.out.put X (.slice x1o x1n x1c) (.slice x2o x2n x2c) (.slice x3o x3n x3c)); (try dsimp only)
                  refine hK.out _ _ ?_ (fun hHeld => ?_)
                  · exact hSS.out _ _ _ _ hS14.out.d
                  clear hK K
                  try simp only [Act.put, List.setIfInBounds_toArray, List.set_cons_zero, List.set_cons_succ]
                  refine wpAnyH_take (i := 15) (oi := { dst := some 121, op := Op.move (Operand.tmp 136), type := 42, pos := "law.go:88", after := #[{ on := 14, ground := Ground.data }], guard := none }) (v := ?_) rfl (by kernel_rfl) (by kernel_rfl) (by kernel_rfl) (fun _ _ _ h => h) (Or.inl ⟨by rfl, ?_⟩) (by assumption) ?_
                  rotate_left
                  · intro w hSw; (try dsimp only at hSw); go_simp <;> with_reducible rfl
                  simp only [Act.put, List.setIfInBounds_toArray, List.set_cons_zero, List.set_cons_succ]
                  refine wpAnyH_take (i := 16) (oi := { dst := some 137, op := Op.extract (Operand.tmp 121) 0, type := 26, pos := "law.go:88", after := #[{ on := 15, ground := Ground.data }], guard := none }) (v := ?_) rfl (by kernel_rfl) (by kernel_rfl) (by kernel_rfl) (fun _ _ _ h => h) (Or.inl ⟨by rfl, ?_⟩) (by assumption) ?_
                  rotate_left
                  · intro w hSw; (try dsimp only at hSw); go_simp <;> with_reducible rfl
                  simp only [Act.put, List.setIfInBounds_toArray, List.set_cons_zero, List.set_cons_succ]
                  refine wpAnyH_take (i := 17) (oi := { dst := some 138, op := Op.extract (Operand.tmp 121) 1, type := 31, pos := "law.go:88", after := #[{ on := 15, ground := Ground.data }, { on := 18, ground := Ground.gcOnly Departure.lateStores }], guard := none }) (v := ?_) rfl (by kernel_rfl) (by kernel_rfl) (by kernel_rfl) (fun _ _ _ h => h) (Or.inl ⟨by rfl, ?_⟩) (by assumption) ?_
                  rotate_left
                  · intro w hSw; (try dsimp only at hSw); go_simp <;> with_reducible rfl
                  simp only [Act.put, List.setIfInBounds_toArray, List.set_cons_zero, List.set_cons_succ]
                  refine wpAnyH_ready (rs := [18]) (by kernel_rfl) (by simp) ?_
                  refine AllReadyH.cons (o := { dst := none, op := Op.store 26 (Operand.tmp 10) (Operand.tmp 137), type := 0, pos := "law.go:88", after := #[{ on := 16, ground := Ground.data }, { on := 14, ground := Ground.chain }, { on := 0, ground := Ground.phase }, { on := 1, ground := Ground.phase }, { on := 2, ground := Ground.phase }, { on := 3, ground := Ground.phase }, { on := 4, ground := Ground.phase }, { on := 5, ground := Ground.phase }, { on := 6, ground := Ground.phase }, { on := 7, ground := Ground.phase }, { on := 8, ground := Ground.phase }, { on := 9, ground := Ground.phase }, { on := 10, ground := Ground.phase }, { on := 11, ground := Ground.phase }, { on := 12, ground := Ground.phase }, { on := 13, ground := Ground.phase }, { on := 14, ground := Ground.phase }, { on := 15, ground := Ground.phase }, { on := 16, ground := Ground.phase }, { on := 17, ground := Ground.textOnly Departure.lateStores }], guard := none }) rfl (fun K hK => ?_) AllReadyH.nil
                  go_simp
                  refine hK.out _ _ ?_ (fun hHeld => ?_)
                  · exact hSS.out _ _ _ _ hP.out.2.1.d
                  clear hK K
                  try simp only [Act.put, List.setIfInBounds_toArray, List.set_cons_zero, List.set_cons_succ]
                  refine wpAnyH_take (i := 19) (oi := { dst := some 11, op := Op.assign (Operand.tmp 138), type := 31, pos := "law.go:88", after := #[{ on := 17, ground := Ground.data }, { on := 18, ground := Ground.chain }, { on := 0, ground := Ground.phase }, { on := 1, ground := Ground.phase }, { on := 2, ground := Ground.phase }, { on := 3, ground := Ground.phase }, { on := 4, ground := Ground.phase }, { on := 5, ground := Ground.phase }, { on := 6, ground := Ground.phase }, { on := 7, ground := Ground.phase }, { on := 8, ground := Ground.phase }, { on := 9, ground := Ground.phase }, { on := 10, ground := Ground.phase }, { on := 11, ground := Ground.phase }, { on := 12, ground := Ground.phase }, { on := 13, ground := Ground.phase }, { on := 14, ground := Ground.phase }, { on := 15, ground := Ground.phase }, { on := 16, ground := Ground.phase }, { on := 17, ground := Ground.phase }, { on := 18, ground := Ground.phase }], guard := none }) (v := ?_) rfl (by kernel_rfl) (by kernel_rfl) (by kernel_rfl) (fun _ _ _ h => h) (Or.inl ⟨by rfl, ?_⟩) (by assumption) ?_
                  rotate_left
                  · intro w hSw; (try dsimp only at hSw); go_simp <;> with_reducible rfl
                  simp only [Act.put, List.setIfInBounds_toArray, List.set_cons_zero, List.set_cons_succ]
                  refine wpAnyH_done (by kernel_rfl) ?_ _
                  skip
                  have hPV := hide' (hkX.out ((((v14.setCell ⟨V0.heap.size, 0, none⟩ (.int .i64 X.users)).setCell ⟨V0.heap.size, 1, none⟩ (.slice x1o x1n x1c)).setCell ⟨V0.heap.size, 2, none⟩ (.slice x2o x2n x2c)).setCell ⟨V0.heap.size, 3, none⟩ (.slice x3o x3n x3c)) (fun k h1 _ => by rw [Below.heap_setCell _ _ _ _ (by show k ≠ V0.heap.size; omega), Below.heap_setCell _ _ _ _ (by show k ≠ V0.heap.size; omega), Below.heap_setCell _ _ _ _ (by show k ≠ V0.heap.size; omega), Below.heap_setCell _ _ _ _ (by show k ≠ V0.heap.size; omega)]))
                  clear f0 y0 f1 y1 f2 y2 f3 y3 hbx hkX
                  go_wp2
                  go_meet
                  exact ⟨(by first | trivial | rfl), x1o, x1n, x1c, x2o, x2n, x2c, x3o, x3n, x3c, hP.out.2.1, hPV, hP.out.2.2⟩
                refine AllReadyH.cons (o := { dst := some 134, op := Op.buildSlice 23 1 #[(0, Operand.tmp 133)], type := 23, pos := "law.go:88", after := #[{ on := 11, ground := Ground.data }], guard := none }) rfl (fun K hK => ?_) AllReadyH.nil
                go_simp
                have hS12 := hide' (hS4.out.over ((Below.refl _ v4).alloc (Nat.le_refl _) (.cells #[.int .i64 (x : Int)] 3))); have hq12 := hide' (hq4.out.below ((Below.refl _ v4).alloc (Nat.le_refl _) (.cells #[.int .i64 (x : Int)] 3))); have hc12 := hide' ((Bo.new v4 (.int .i64 (x : Int)) 3).c); have hO4_12 := hide' (own_below hO4_4.out ((Below.refl _ v4).alloc (Nat.le_refl _) (.cells #[.int .i64 (x : Int)] 3)) (Nat.le_refl _)); (try dsimp only)
                refine hK.out _ _ ?_ (fun hHeld => ?_)
                · exact hSS.out _ _ _ _ hS12.out.d
                clear hK K
                try simp only [Act.put, List.setIfInBounds_toArray, List.set_cons_zero, List.set_cons_succ]
                refine wpAnyH_ready (rs := [7]) (by kernel_rfl) (by simp) ?_
                refine AllReadyH.cons (o := { dst := some 129, op := Op.call { callee := Callee.value (Operand.func 18), args := #[Operand.tmp 127, Operand.tmp 128], argTypes := #[3, 23] }, type := 23, pos := "law.go:88", after := #[{ on := 5, ground := Ground.data }, { on := 6, ground := Ground.data }, { on := 4, ground := Ground.chain }], guard := none }) rfl (fun K hK => ?_) AllReadyH.nil
                go_simp
                go_at_call 18; refine (K5.out _ _ _ _ hS12.out.d).mono ?_; rintro e v7 ⟨o7, k7, rfl, hO7_7, hb7⟩; have hS7 := hide' (hS12.out.over hb7.out); have hq7 := hide' (hq12.out.below hb7.out); have hc7 := hide' (M.cell_over hc12.out hb7.out); have hO4_7 := hide' (own_below hO4_12.out hb7.out (Nat.le_refl _)); have hBp := hide' hb7.out; have hSp := hS12; have hqp := hq12; have hOp4 := hO4_12; (try dsimp only)
                refine hK.out _ _ ?_ (fun hHeld => ?_)
                · exact hSS.out _ _ _ _ hS7.out.d
                clear hK K
                try simp only [Act.put, List.setIfInBounds_toArray, List.set_cons_zero, List.set_cons_succ]
                refine wpAnyH_ready (rs := [13]) (by kernel_rfl) (by simp) ?_
                refine AllReadyH.cons (o := { dst := some 135, op := Op.call { callee := Callee.builtin Builtin.append, args := #[Operand.tmp 129, Operand.tmp 134], argTypes := #[23, 23] }, type := 23, pos := "law.go:88", after := #[{ on := 7, ground := Ground.data }, { on := 12, ground := Ground.data }, { on := 7, ground := Ground.chain }], guard := none }) rfl (fun K hK => ?_) AllReadyH.nil
                rw [if_pos (by rfl)]
                refine app_oneC _ _ _ _ RB _ x RX hRX'.out _ rfl rfl rfl hO7_7.out hc7.out (by omega) (by have := hBp.out.size; first | exact this | (simp; omega) | omega) ?_; intro oA kA v13 hOA_13 hbA; have hBA := hide' (hBp.out.trans hbA.out); have hS13 := hide' (hSp.out.over hBA.out); have hq13 := hide' (hqp.out.below hBA.out); have hO4_13 := hide' (own_below hOp4.out hBA.out (Nat.le_refl _)); (try dsimp only)
                refine hK.out _ _ ?_ (fun hHeld => ?_)
                · exact hSS.out _ _ _ _ hS13.out.d
                clear hK K
                try simp only [Act.put, List.setIfInBounds_toArray, List.set_cons_zero, List.set_cons_succ]
                refine wpAnyH_ready (rs := [14]) (by kernel_rfl) (by simp) ?_
                refine AllReadyH.cons (o := { dst := some 136, op := Op.call { callee := Callee.value (Operand.func 17), args := #[Operand.tmp 123, Operand.tmp 126, Operand.tmp 135], argTypes := #[26, 23, 23] }, type := 42, pos := "law.go:88", after := #[{ on := 1, ground := Ground.data }, { on := 4, ground := Ground.data }, { on := 13, ground := Ground.data }, { on := 13, ground := Ground.chain }], guard := none }) rfl (fun K hK => ?_) AllReadyH.nil
                go_simp
                go_at_call 17; refine (KX.out _ _ _ _ _ _ hq13.out (RowI.of_owns hO4_13.out) (RowI.of_owns hOA_13.out)).mono ?_; rintro e v14 ⟨x1o, x1n, x1c, x2o, x2n, x2c, x3o, x3n, x3c, rfl, hX14, hb14, _, hkX⟩; have hS14 := hide' (hS13.out.over hb14.out); have hz14 := hS13.out.lt; obtain ⟨ub, xb, yb, zb, hbx⟩ := hS14.out.bx; have f0 := hbx.frz 0; have y0 := hbx.c0; have f1 := (hbx.s0C X.users).frz 1; have y1 := (hbx.s0C X.users).c1; have f2 := ((hbx.s0C X.users).s1 (.slice x1o x1n x1c)).frz 2; have y2 := ((hbx.s0C X.users).s1 (.slice x1o x1n x1c)).c2; have f3 := (((hbx.s0C X.users).s1 (.slice x1o x1n x1c)).s2 (.slice x2o x2n x2c)).frz 3; have y3 := (((hbx.s0C X.users).s1 (.slice x1o x1n x1c)).s2 (.slice x2o x2n x2c)).c3; have hP := hide' (hS14.out.put X (.slice x1o x1n x1c) (.slice x2o x2n x2c) (.slice x3o x3n x3c)); (try dsimp only)
                refine hK.out _ _ ?_ (fun hHeld => ?_)
                · exact hSS.out _ _ _ _ hS14.out.d
                clear hK K
                try simp only [Act.put, List.setIfInBounds_toArray, List.set_cons_zero, List.set_cons_succ]
                refine wpAnyH_take (i := 15) (oi := { dst := some 121, op := Op.move (Operand.tmp 136), type := 42, pos := "law.go:88", after := #[{ on := 14, ground := Ground.data }], guard := none }) (v := ?_) rfl (by kernel_rfl) (by kernel_rfl) (by kernel_rfl) (fun _ _ _ h => h) (Or.inl ⟨by rfl, ?_⟩) (by assumption) ?_
                rotate_left
                · intro w hSw; (try dsimp only at hSw); go_simp <;> with_reducible rfl
                simp only [Act.put, List.setIfInBounds_toArray, List.set_cons_zero, List.set_cons_succ]
                refine wpAnyH_take (i := 16) (oi := { dst := some 137, op := Op.extract (Operand.tmp 121) 0, type := 26, pos := "law.go:88", after := #[{ on := 15, ground := Ground.data }], guard := none }) (v := ?_) rfl (by kernel_rfl) (by kernel_rfl) (by kernel_rfl) (fun _ _ _ h => h) (Or.inl ⟨by rfl, ?_⟩) (by assumption) ?_
                rotate_left
                · intro w hSw; (try dsimp only at hSw); go_simp <;> with_reducible rfl
                simp only [Act.put, List.setIfInBounds_toArray, List.set_cons_zero, List.set_cons_succ]
                refine wpAnyH_take (i := 17) (oi := { dst := some 138, op := Op.extract (Operand.tmp 121) 1, type := 31, pos := "law.go:88", after := #[{ on := 15, ground := Ground.data }, { on := 18, ground := Ground.gcOnly Departure.lateStores }], guard := none }) (v := ?_) rfl (by kernel_rfl) (by kernel_rfl) (by kernel_rfl) (fun _ _ _ h => h) (Or.inl ⟨by rfl, ?_⟩) (by assumption) ?_
                rotate_left
                · intro w hSw; (try dsimp only at hSw); go_simp <;> with_reducible rfl
                simp only [Act.put, List.setIfInBounds_toArray, List.set_cons_zero, List.set_cons_succ]
                refine wpAnyH_ready (rs := [18]) (by kernel_rfl) (by simp) ?_
                refine AllReadyH.cons (o := { dst := none, op := Op.store 26 (Operand.tmp 10) (Operand.tmp 137), type := 0, pos := "law.go:88", after := #[{ on := 16, ground := Ground.data }, { on := 14, ground := Ground.chain }, { on := 0, ground := Ground.phase }, { on := 1, ground := Ground.phase }, { on := 2, ground := Ground.phase }, { on := 3, ground := Ground.phase }, { on := 4, ground := Ground.phase }, { on := 5, ground := Ground.phase }, { on := 6, ground := Ground.phase }, { on := 7, ground := Ground.phase }, { on := 8, ground := Ground.phase }, { on := 9, ground := Ground.phase }, { on := 10, ground := Ground.phase }, { on := 11, ground := Ground.phase }, { on := 12, ground := Ground.phase }, { on := 13, ground := Ground.phase }, { on := 14, ground := Ground.phase }, { on := 15, ground := Ground.phase }, { on := 16, ground := Ground.phase }, { on := 17, ground := Ground.textOnly Departure.lateStores }], guard := none }) rfl (fun K hK => ?_) AllReadyH.nil
                go_simp
                refine hK.out _ _ ?_ (fun hHeld => ?_)
                · exact hSS.out _ _ _ _ hP.out.2.1.d
                clear hK K
                try simp only [Act.put, List.setIfInBounds_toArray, List.set_cons_zero, List.set_cons_succ]
                refine wpAnyH_take (i := 19) (oi := { dst := some 11, op := Op.assign (Operand.tmp 138), type := 31, pos := "law.go:88", after := #[{ on := 17, ground := Ground.data }, { on := 18, ground := Ground.chain }, { on := 0, ground := Ground.phase }, { on := 1, ground := Ground.phase }, { on := 2, ground := Ground.phase }, { on := 3, ground := Ground.phase }, { on := 4, ground := Ground.phase }, { on := 5, ground := Ground.phase }, { on := 6, ground := Ground.phase }, { on := 7, ground := Ground.phase }, { on := 8, ground := Ground.phase }, { on := 9, ground := Ground.phase }, { on := 10, ground := Ground.phase }, { on := 11, ground := Ground.phase }, { on := 12, ground := Ground.phase }, { on := 13, ground := Ground.phase }, { on := 14, ground := Ground.phase }, { on := 15, ground := Ground.phase }, { on := 16, ground := Ground.phase }, { on := 17, ground := Ground.phase }, { on := 18, ground := Ground.phase }], guard := none }) (v := ?_) rfl (by kernel_rfl) (by kernel_rfl) (by kernel_rfl) (fun _ _ _ h => h) (Or.inl ⟨by rfl, ?_⟩) (by assumption) ?_
                rotate_left
                · intro w hSw; (try dsimp only at hSw); go_simp <;> with_reducible rfl
                simp only [Act.put, List.setIfInBounds_toArray, List.set_cons_zero, List.set_cons_succ]
                refine wpAnyH_done (by kernel_rfl) ?_ _
                skip
                have hPV := hide' (hkX.out ((((v14.setCell ⟨V0.heap.size, 0, none⟩ (.int .i64 X.users)).setCell ⟨V0.heap.size, 1, none⟩ (.slice x1o x1n x1c)).setCell ⟨V0.heap.size, 2, none⟩ (.slice x2o x2n x2c)).setCell ⟨V0.heap.size, 3, none⟩ (.slice x3o x3n x3c)) (fun k h1 _ => by rw [Below.heap_setCell _ _ _ _ (by show k ≠ V0.heap.size; omega), Below.heap_setCell _ _ _ _ (by show k ≠ V0.heap.size; omega), Below.heap_setCell _ _ _ _ (by show k ≠ V0.heap.size; omega), Below.heap_setCell _ _ _ _ (by show k ≠ V0.heap.size; omega)]))
                clear f0 y0 f1 y1 f2 y2 f3 y3 hbx hkX
                go_wp2
                go_meet
                exact ⟨(by first | trivial | rfl), x1o, x1n, x1c, x2o, x2n, x2c, x3o, x3n, x3c, hP.out.2.1, hPV, hP.out.2.2⟩
              refine AllReadyH.cons (o := { dst := some 134, op := Op.buildSlice 23 1 #[(0, Operand.tmp 133)], type := 23, pos := "law.go:88", after := #[{ on := 11, ground := Ground.data }], guard := none }) rfl (fun K hK => ?_) AllReadyH.nil
              go_simp
              have hS12 := hide' (hS1.out.over ((Below.refl _ v1).alloc (Nat.le_refl _) (.cells #[.int .i64 (x : Int)] 3))); have hq12 := hide' (hq1.out.below ((Below.refl _ v1).alloc (Nat.le_refl _) (.cells #[.int .i64 (x : Int)] 3))); have hc12 := hide' ((Bo.new v1 (.int .i64 (x : Int)) 3).c); (try dsimp only)
              refine hK.out _ _ ?_ (fun hHeld => ?_)
              · exact hSS.out _ _ _ _ hS12.out.d
              clear hK K
              try simp only [Act.put, List.setIfInBounds_toArray, List.set_cons_zero, List.set_cons_succ]
              refine wpAnyH_ready (rs := [4]) (by kernel_rfl) (by simp) ?_
              refine AllReadyH.cons (o := { dst := some 126, op := Op.call { callee := Callee.value (Operand.func 18), args := #[Operand.tmp 124, Operand.tmp 125], argTypes := #[3, 23] }, type := 23, pos := "law.go:88", after := #[{ on := 2, ground := Ground.data }, { on := 3, ground := Ground.data }, { on := 1, ground := Ground.chain }], guard := none }) rfl (fun K hK => ?_) AllReadyH.nil
              go_simp
              go_at_call 18; refine (K4.out _ _ _ _ hS12.out.d).mono ?_; rintro e v4 ⟨o4, k4, rfl, hO4_4, hb4⟩; have hS4 := hide' (hS12.out.over hb4.out); have hq4 := hide' (hq12.out.below hb4.out); have hc4 := hide' (M.cell_over hc12.out hb4.out); (try dsimp only)
              refine hK.out _ _ ?_ (fun hHeld => ?_)
              · exact hSS.out _ _ _ _ hS4.out.d
              clear hK K
              try simp only [Act.put, List.setIfInBounds_toArray, List.set_cons_zero, List.set_cons_succ]
              refine wpAnyH_ready (rs := [7]) (by kernel_rfl) (by simp) ?_
              refine AllReadyH.cons (o := { dst := some 129, op := Op.call { callee := Callee.value (Operand.func 18), args := #[Operand.tmp 127, Operand.tmp 128], argTypes := #[3, 23] }, type := 23, pos := "law.go:88", after := #[{ on := 5, ground := Ground.data }, { on := 6, ground := Ground.data }, { on := 4, ground := Ground.chain }], guard := none }) rfl (fun K hK => ?_) AllReadyH.nil
              go_simp
              go_at_call 18; refine (K5.out _ _ _ _ hS4.out.d).mono ?_; rintro e v7 ⟨o7, k7, rfl, hO7_7, hb7⟩; have hS7 := hide' (hS4.out.over hb7.out); have hq7 := hide' (hq4.out.below hb7.out); have hc7 := hide' (M.cell_over hc4.out hb7.out); have hO4_7 := hide' (own_below hO4_4.out hb7.out (Nat.le_refl _)); have hBp := hide' hb7.out; have hSp := hS4; have hqp := hq4; have hOp4 := hO4_4; (try dsimp only)
              refine hK.out _ _ ?_ (fun hHeld => ?_)
              · exact hSS.out _ _ _ _ hS7.out.d
              clear hK K
              try simp only [Act.put, List.setIfInBounds_toArray, List.set_cons_zero, List.set_cons_succ]
              refine wpAnyH_ready (rs := [13]) (by kernel_rfl) (by simp) ?_
              refine AllReadyH.cons (o := { dst := some 135, op := Op.call { callee := Callee.builtin Builtin.append, args := #[Operand.tmp 129, Operand.tmp 134], argTypes := #[23, 23] }, type := 23, pos := "law.go:88", after := #[{ on := 7, ground := Ground.data }, { on := 12, ground := Ground.data }, { on := 7, ground := Ground.chain }], guard := none }) rfl (fun K hK => ?_) AllReadyH.nil
              rw [if_pos (by rfl)]
              refine app_oneC _ _ _ _ RB _ x RX hRX'.out _ rfl rfl rfl hO7_7.out hc7.out (by omega) (by have := hBp.out.size; first | exact this | (simp; omega) | omega) ?_; intro oA kA v13 hOA_13 hbA; have hBA := hide' (hBp.out.trans hbA.out); have hS13 := hide' (hSp.out.over hBA.out); have hq13 := hide' (hqp.out.below hBA.out); have hO4_13 := hide' (own_below hOp4.out hBA.out (Nat.le_refl _)); (try dsimp only)
              refine hK.out _ _ ?_ (fun hHeld => ?_)
              · exact hSS.out _ _ _ _ hS13.out.d
              clear hK K
              try simp only [Act.put, List.setIfInBounds_toArray, List.set_cons_zero, List.set_cons_succ]
              refine wpAnyH_ready (rs := [14]) (by kernel_rfl) (by simp) ?_
              refine AllReadyH.cons (o := { dst := some 136, op := Op.call { callee := Callee.value (Operand.func 17), args := #[Operand.tmp 123, Operand.tmp 126, Operand.tmp 135], argTypes := #[26, 23, 23] }, type := 42, pos := "law.go:88", after := #[{ on := 1, ground := Ground.data }, { on := 4, ground := Ground.data }, { on := 13, ground := Ground.data }, { on := 13, ground := Ground.chain }], guard := none }) rfl (fun K hK => ?_) AllReadyH.nil
              go_simp
              go_at_call 17; refine (KX.out _ _ _ _ _ _ hq13.out (RowI.of_owns hO4_13.out) (RowI.of_owns hOA_13.out)).mono ?_; rintro e v14 ⟨x1o, x1n, x1c, x2o, x2n, x2c, x3o, x3n, x3c, rfl, hX14, hb14, _, hkX⟩; have hS14 := hide' (hS13.out.over hb14.out); have hz14 := hS13.out.lt; obtain ⟨ub, xb, yb, zb, hbx⟩ := hS14.out.bx; have f0 := hbx.frz 0; have y0 := hbx.c0; have f1 := (hbx.s0C X.users).frz 1; have y1 := (hbx.s0C X.users).c1; have f2 := ((hbx.s0C X.users).s1 (.slice x1o x1n x1c)).frz 2; have y2 := ((hbx.s0C X.users).s1 (.slice x1o x1n x1c)).c2; have f3 := (((hbx.s0C X.users).s1 (.slice x1o x1n x1c)).s2 (.slice x2o x2n x2c)).frz 3; have y3 := (((hbx.s0C X.users).s1 (.slice x1o x1n x1c)).s2 (.slice x2o x2n x2c)).c3; have hP := hide' (hS14.out.put X (.slice x1o x1n x1c) (.slice x2o x2n x2c) (.slice x3o x3n x3c)); (try dsimp only)
              refine hK.out _ _ ?_ (fun hHeld => ?_)
              · exact hSS.out _ _ _ _ hS14.out.d
              clear hK K
              try simp only [Act.put, List.setIfInBounds_toArray, List.set_cons_zero, List.set_cons_succ]
              refine wpAnyH_take (i := 15) (oi := { dst := some 121, op := Op.move (Operand.tmp 136), type := 42, pos := "law.go:88", after := #[{ on := 14, ground := Ground.data }], guard := none }) (v := ?_) rfl (by kernel_rfl) (by kernel_rfl) (by kernel_rfl) (fun _ _ _ h => h) (Or.inl ⟨by rfl, ?_⟩) (by assumption) ?_
              rotate_left
              · intro w hSw; (try dsimp only at hSw); go_simp <;> with_reducible rfl
              simp only [Act.put, List.setIfInBounds_toArray, List.set_cons_zero, List.set_cons_succ]
              refine wpAnyH_take (i := 16) (oi := { dst := some 137, op := Op.extract (Operand.tmp 121) 0, type := 26, pos := "law.go:88", after := #[{ on := 15, ground := Ground.data }], guard := none }) (v := ?_) rfl (by kernel_rfl) (by kernel_rfl) (by kernel_rfl) (fun _ _ _ h => h) (Or.inl ⟨by rfl, ?_⟩) (by assumption) ?_
              rotate_left
              · intro w hSw; (try dsimp only at hSw); go_simp <;> with_reducible rfl
              simp only [Act.put, List.setIfInBounds_toArray, List.set_cons_zero, List.set_cons_succ]
              refine wpAnyH_take (i := 17) (oi := { dst := some 138, op := Op.extract (Operand.tmp 121) 1, type := 31, pos := "law.go:88", after := #[{ on := 15, ground := Ground.data }, { on := 18, ground := Ground.gcOnly Departure.lateStores }], guard := none }) (v := ?_) rfl (by kernel_rfl) (by kernel_rfl) (by kernel_rfl) (fun _ _ _ h => h) (Or.inl ⟨by rfl, ?_⟩) (by assumption) ?_
              rotate_left
              · intro w hSw; (try dsimp only at hSw); go_simp <;> with_reducible rfl
              simp only [Act.put, List.setIfInBounds_toArray, List.set_cons_zero, List.set_cons_succ]
              refine wpAnyH_ready (rs := [18]) (by kernel_rfl) (by simp) ?_
              refine AllReadyH.cons (o := { dst := none, op := Op.store 26 (Operand.tmp 10) (Operand.tmp 137), type := 0, pos := "law.go:88", after := #[{ on := 16, ground := Ground.data }, { on := 14, ground := Ground.chain }, { on := 0, ground := Ground.phase }, { on := 1, ground := Ground.phase }, { on := 2, ground := Ground.phase }, { on := 3, ground := Ground.phase }, { on := 4, ground := Ground.phase }, { on := 5, ground := Ground.phase }, { on := 6, ground := Ground.phase }, { on := 7, ground := Ground.phase }, { on := 8, ground := Ground.phase }, { on := 9, ground := Ground.phase }, { on := 10, ground := Ground.phase }, { on := 11, ground := Ground.phase }, { on := 12, ground := Ground.phase }, { on := 13, ground := Ground.phase }, { on := 14, ground := Ground.phase }, { on := 15, ground := Ground.phase }, { on := 16, ground := Ground.phase }, { on := 17, ground := Ground.textOnly Departure.lateStores }], guard := none }) rfl (fun K hK => ?_) AllReadyH.nil
              go_simp
              refine hK.out _ _ ?_ (fun hHeld => ?_)
              · exact hSS.out _ _ _ _ hP.out.2.1.d
              clear hK K
              try simp only [Act.put, List.setIfInBounds_toArray, List.set_cons_zero, List.set_cons_succ]
              refine wpAnyH_take (i := 19) (oi := { dst := some 11, op := Op.assign (Operand.tmp 138), type := 31, pos := "law.go:88", after := #[{ on := 17, ground := Ground.data }, { on := 18, ground := Ground.chain }, { on := 0, ground := Ground.phase }, { on := 1, ground := Ground.phase }, { on := 2, ground := Ground.phase }, { on := 3, ground := Ground.phase }, { on := 4, ground := Ground.phase }, { on := 5, ground := Ground.phase }, { on := 6, ground := Ground.phase }, { on := 7, ground := Ground.phase }, { on := 8, ground := Ground.phase }, { on := 9, ground := Ground.phase }, { on := 10, ground := Ground.phase }, { on := 11, ground := Ground.phase }, { on := 12, ground := Ground.phase }, { on := 13, ground := Ground.phase }, { on := 14, ground := Ground.phase }, { on := 15, ground := Ground.phase }, { on := 16, ground := Ground.phase }, { on := 17, ground := Ground.phase }, { on := 18, ground := Ground.phase }], guard := none }) (v := ?_) rfl (by kernel_rfl) (by kernel_rfl) (by kernel_rfl) (fun _ _ _ h => h) (Or.inl ⟨by rfl, ?_⟩) (by assumption) ?_
              rotate_left
              · intro w hSw; (try dsimp only at hSw); go_simp <;> with_reducible rfl
              simp only [Act.put, List.setIfInBounds_toArray, List.set_cons_zero, List.set_cons_succ]
              refine wpAnyH_done (by kernel_rfl) ?_ _
              skip
              have hPV := hide' (hkX.out ((((v14.setCell ⟨V0.heap.size, 0, none⟩ (.int .i64 X.users)).setCell ⟨V0.heap.size, 1, none⟩ (.slice x1o x1n x1c)).setCell ⟨V0.heap.size, 2, none⟩ (.slice x2o x2n x2c)).setCell ⟨V0.heap.size, 3, none⟩ (.slice x3o x3n x3c)) (fun k h1 _ => by rw [Below.heap_setCell _ _ _ _ (by show k ≠ V0.heap.size; omega), Below.heap_setCell _ _ _ _ (by show k ≠ V0.heap.size; omega), Below.heap_setCell _ _ _ _ (by show k ≠ V0.heap.size; omega), Below.heap_setCell _ _ _ _ (by show k ≠ V0.heap.size; omega)]))
              clear f0 y0 f1 y1 f2 y2 f3 y3 hbx hkX
              go_wp2
              go_meet
              exact ⟨(by first | trivial | rfl), x1o, x1n, x1c, x2o, x2n, x2c, x3o, x3n, x3c, hP.out.2.1, hPV, hP.out.2.2⟩
            refine AllReadyH.cons (o := { dst := some 134, op := Op.buildSlice 23 1 #[(0, Operand.tmp 133)], type := 23, pos := "law.go:88", after := #[{ on := 11, ground := Ground.data }], guard := none }) rfl (fun K hK => ?_) AllReadyH.nil
            go_simp
            have hS12 := hide' (hSd.out.over ((Below.refl _ wr.drew).alloc (Nat.le_refl _) (.cells #[.int .i64 (x : Int)] 3))); have hc12 := hide' ((Bo.new wr.drew (.int .i64 (x : Int)) 3).c); (try dsimp only)
            refine hK.out _ _ ?_ (fun hHeld => ?_)
            · exact hSS.out _ _ _ _ hS12.out.d
            clear hK K
            try simp only [Act.put, List.setIfInBounds_toArray, List.set_cons_zero, List.set_cons_succ]
            refine wpAnyH_ready (rs := [1]) (by kernel_rfl) (by simp) ?_
            refine AllReadyH.cons (o := { dst := some 123, op := Op.call { callee := Callee.value (Operand.func 7), args := #[Operand.tmp 122], argTypes := #[26] }, type := 26, pos := "law.go:88", after := #[{ on := 0, ground := Ground.data }], guard := none }) rfl (fun K hK => ?_) AllReadyH.nil
            go_simp
            go_at_call 7; refine (K1.out _ _ _ _ hS12.out.d).mono ?_; rintro e v1 ⟨va, vb, vc, rfl, hq1, hb1, _⟩; have hS1 := hide' (hS12.out.over hb1.out); have hc1 := hide' (M.cell_over hc12.out hb1.out); (try dsimp only)
            refine hK.out _ _ ?_ (fun hHeld => ?_)
            · exact hSS.out _ _ _ _ hS1.out.d
            clear hK K
            try simp only [Act.put, List.setIfInBounds_toArray, List.set_cons_zero, List.set_cons_succ]
            refine wpAnyH_ready (rs := [4]) (by kernel_rfl) (by simp) ?_
            refine AllReadyH.cons (o := { dst := some 126, op := Op.call { callee := Callee.value (Operand.func 18), args := #[Operand.tmp 124, Operand.tmp 125], argTypes := #[3, 23] }, type := 23, pos := "law.go:88", after := #[{ on := 2, ground := Ground.data }, { on := 3, ground := Ground.data }, { on := 1, ground := Ground.chain }], guard := none }) rfl (fun K hK => ?_) AllReadyH.nil
            go_simp
            go_at_call 18; refine (K4.out _ _ _ _ hS1.out.d).mono ?_; rintro e v4 ⟨o4, k4, rfl, hO4_4, hb4⟩; have hS4 := hide' (hS1.out.over hb4.out); have hq4 := hide' (hq1.out.below hb4.out); have hc4 := hide' (M.cell_over hc1.out hb4.out); (try dsimp only)
            refine hK.out _ _ ?_ (fun hHeld => ?_)
            · exact hSS.out _ _ _ _ hS4.out.d
            clear hK K
            try simp only [Act.put, List.setIfInBounds_toArray, List.set_cons_zero, List.set_cons_succ]
            refine wpAnyH_ready (rs := [7]) (by kernel_rfl) (by simp) ?_
            refine AllReadyH.cons (o := { dst := some 129, op := Op.call { callee := Callee.value (Operand.func 18), args := #[Operand.tmp 127, Operand.tmp 128], argTypes := #[3, 23] }, type := 23, pos := "law.go:88", after := #[{ on := 5, ground := Ground.data }, { on := 6, ground := Ground.data }, { on := 4, ground := Ground.chain }], guard := none }) rfl (fun K hK => ?_) AllReadyH.nil
            go_simp
            go_at_call 18; refine (K5.out _ _ _ _ hS4.out.d).mono ?_; rintro e v7 ⟨o7, k7, rfl, hO7_7, hb7⟩; have hS7 := hide' (hS4.out.over hb7.out); have hq7 := hide' (hq4.out.below hb7.out); have hc7 := hide' (M.cell_over hc4.out hb7.out); have hO4_7 := hide' (own_below hO4_4.out hb7.out (Nat.le_refl _)); have hBp := hide' hb7.out; have hSp := hS4; have hqp := hq4; have hOp4 := hO4_4; (try dsimp only)
            refine hK.out _ _ ?_ (fun hHeld => ?_)
            · exact hSS.out _ _ _ _ hS7.out.d
            clear hK K
            try simp only [Act.put, List.setIfInBounds_toArray, List.set_cons_zero, List.set_cons_succ]
            refine wpAnyH_ready (rs := [13]) (by kernel_rfl) (by simp) ?_
            refine AllReadyH.cons (o := { dst := some 135, op := Op.call { callee := Callee.builtin Builtin.append, args := #[Operand.tmp 129, Operand.tmp 134], argTypes := #[23, 23] }, type := 23, pos := "law.go:88", after := #[{ on := 7, ground := Ground.data }, { on := 12, ground := Ground.data }, { on := 7, ground := Ground.chain }], guard := none }) rfl (fun K hK => ?_) AllReadyH.nil
            rw [if_pos (by rfl)]
            refine app_oneC _ _ _ _ RB _ x RX hRX'.out _ rfl rfl rfl hO7_7.out hc7.out (by omega) (by have := hBp.out.size; first | exact this | (simp; omega) | omega) ?_; intro oA kA v13 hOA_13 hbA; have hBA := hide' (hBp.out.trans hbA.out); have hS13 := hide' (hSp.out.over hBA.out); have hq13 := hide' (hqp.out.below hBA.out); have hO4_13 := hide' (own_below hOp4.out hBA.out (Nat.le_refl _)); (try dsimp only)
            refine hK.out _ _ ?_ (fun hHeld => ?_)
            · exact hSS.out _ _ _ _ hS13.out.d
            clear hK K
            try simp only [Act.put, List.setIfInBounds_toArray, List.set_cons_zero, List.set_cons_succ]
            refine wpAnyH_ready (rs := [14]) (by kernel_rfl) (by simp) ?_
            refine AllReadyH.cons (o := { dst := some 136, op := Op.call { callee := Callee.value (Operand.func 17), args := #[Operand.tmp 123, Operand.tmp 126, Operand.tmp 135], argTypes := #[26, 23, 23] }, type := 42, pos := "law.go:88", after := #[{ on := 1, ground := Ground.data }, { on := 4, ground := Ground.data }, { on := 13, ground := Ground.data }, { on := 13, ground := Ground.chain }], guard := none }) rfl (fun K hK => ?_) AllReadyH.nil
            go_simp
            go_at_call 17; refine (KX.out _ _ _ _ _ _ hq13.out (RowI.of_owns hO4_13.out) (RowI.of_owns hOA_13.out)).mono ?_; rintro e v14 ⟨x1o, x1n, x1c, x2o, x2n, x2c, x3o, x3n, x3c, rfl, hX14, hb14, _, hkX⟩; have hS14 := hide' (hS13.out.over hb14.out); have hz14 := hS13.out.lt; obtain ⟨ub, xb, yb, zb, hbx⟩ := hS14.out.bx; have f0 := hbx.frz 0; have y0 := hbx.c0; have f1 := (hbx.s0C X.users).frz 1; have y1 := (hbx.s0C X.users).c1; have f2 := ((hbx.s0C X.users).s1 (.slice x1o x1n x1c)).frz 2; have y2 := ((hbx.s0C X.users).s1 (.slice x1o x1n x1c)).c2; have f3 := (((hbx.s0C X.users).s1 (.slice x1o x1n x1c)).s2 (.slice x2o x2n x2c)).frz 3; have y3 := (((hbx.s0C X.users).s1 (.slice x1o x1n x1c)).s2 (.slice x2o x2n x2c)).c3; have hP := hide' (hS14.out.put X (.slice x1o x1n x1c) (.slice x2o x2n x2c) (.slice x3o x3n x3c)); (try dsimp only)
            refine hK.out _ _ ?_ (fun hHeld => ?_)
            · exact hSS.out _ _ _ _ hS14.out.d
            clear hK K
            try simp only [Act.put, List.setIfInBounds_toArray, List.set_cons_zero, List.set_cons_succ]
            refine wpAnyH_take (i := 15) (oi := { dst := some 121, op := Op.move (Operand.tmp 136), type := 42, pos := "law.go:88", after := #[{ on := 14, ground := Ground.data }], guard := none }) (v := ?_) rfl (by kernel_rfl) (by kernel_rfl) (by kernel_rfl) (fun _ _ _ h => h) (Or.inl ⟨by rfl, ?_⟩) (by assumption) ?_
            rotate_left
            · intro w hSw; (try dsimp only at hSw); go_simp <;> with_reducible rfl
            simp only [Act.put, List.setIfInBounds_toArray, List.set_cons_zero, List.set_cons_succ]
            refine wpAnyH_take (i := 16) (oi := { dst := some 137, op := Op.extract (Operand.tmp 121) 0, type := 26, pos := "law.go:88", after := #[{ on := 15, ground := Ground.data }], guard := none }) (v := ?_) rfl (by kernel_rfl) (by kernel_rfl) (by kernel_rfl) (fun _ _ _ h => h) (Or.inl ⟨by rfl, ?_⟩) (by assumption) ?_
            rotate_left
            · intro w hSw; (try dsimp only at hSw); go_simp <;> with_reducible rfl
            simp only [Act.put, List.setIfInBounds_toArray, List.set_cons_zero, List.set_cons_succ]
            refine wpAnyH_take (i := 17) (oi := { dst := some 138, op := Op.extract (Operand.tmp 121) 1, type := 31, pos := "law.go:88", after := #[{ on := 15, ground := Ground.data }, { on := 18, ground := Ground.gcOnly Departure.lateStores }], guard := none }) (v := ?_) rfl (by kernel_rfl) (by kernel_rfl) (by kernel_rfl) (fun _ _ _ h => h) (Or.inl ⟨by rfl, ?_⟩) (by assumption) ?_
            rotate_left
            · intro w hSw; (try dsimp only at hSw); go_simp <;> with_reducible rfl
            simp only [Act.put, List.setIfInBounds_toArray, List.set_cons_zero, List.set_cons_succ]
            refine wpAnyH_ready (rs := [18]) (by kernel_rfl) (by simp) ?_
            refine AllReadyH.cons (o := { dst := none, op := Op.store 26 (Operand.tmp 10) (Operand.tmp 137), type := 0, pos := "law.go:88", after := #[{ on := 16, ground := Ground.data }, { on := 14, ground := Ground.chain }, { on := 0, ground := Ground.phase }, { on := 1, ground := Ground.phase }, { on := 2, ground := Ground.phase }, { on := 3, ground := Ground.phase }, { on := 4, ground := Ground.phase }, { on := 5, ground := Ground.phase }, { on := 6, ground := Ground.phase }, { on := 7, ground := Ground.phase }, { on := 8, ground := Ground.phase }, { on := 9, ground := Ground.phase }, { on := 10, ground := Ground.phase }, { on := 11, ground := Ground.phase }, { on := 12, ground := Ground.phase }, { on := 13, ground := Ground.phase }, { on := 14, ground := Ground.phase }, { on := 15, ground := Ground.phase }, { on := 16, ground := Ground.phase }, { on := 17, ground := Ground.textOnly Departure.lateStores }], guard := none }) rfl (fun K hK => ?_) AllReadyH.nil
            go_simp
            refine hK.out _ _ ?_ (fun hHeld => ?_)
            · exact hSS.out _ _ _ _ hP.out.2.1.d
            clear hK K
            try simp only [Act.put, List.setIfInBounds_toArray, List.set_cons_zero, List.set_cons_succ]
            refine wpAnyH_take (i := 19) (oi := { dst := some 11, op := Op.assign (Operand.tmp 138), type := 31, pos := "law.go:88", after := #[{ on := 17, ground := Ground.data }, { on := 18, ground := Ground.chain }, { on := 0, ground := Ground.phase }, { on := 1, ground := Ground.phase }, { on := 2, ground := Ground.phase }, { on := 3, ground := Ground.phase }, { on := 4, ground := Ground.phase }, { on := 5, ground := Ground.phase }, { on := 6, ground := Ground.phase }, { on := 7, ground := Ground.phase }, { on := 8, ground := Ground.phase }, { on := 9, ground := Ground.phase }, { on := 10, ground := Ground.phase }, { on := 11, ground := Ground.phase }, { on := 12, ground := Ground.phase }, { on := 13, ground := Ground.phase }, { on := 14, ground := Ground.phase }, { on := 15, ground := Ground.phase }, { on := 16, ground := Ground.phase }, { on := 17, ground := Ground.phase }, { on := 18, ground := Ground.phase }], guard := none }) (v := ?_) rfl (by kernel_rfl) (by kernel_rfl) (by kernel_rfl) (fun _ _ _ h => h) (Or.inl ⟨by rfl, ?_⟩) (by assumption) ?_
            rotate_left
            · intro w hSw; (try dsimp only at hSw); go_simp <;> with_reducible rfl
            simp only [Act.put, List.setIfInBounds_toArray, List.set_cons_zero, List.set_cons_succ]
            refine wpAnyH_done (by kernel_rfl) ?_ _
            skip
            have hPV := hide' (hkX.out ((((v14.setCell ⟨V0.heap.size, 0, none⟩ (.int .i64 X.users)).setCell ⟨V0.heap.size, 1, none⟩ (.slice x1o x1n x1c)).setCell ⟨V0.heap.size, 2, none⟩ (.slice x2o x2n x2c)).setCell ⟨V0.heap.size, 3, none⟩ (.slice x3o x3n x3c)) (fun k h1 _ => by rw [Below.heap_setCell _ _ _ _ (by show k ≠ V0.heap.size; omega), Below.heap_setCell _ _ _ _ (by show k ≠ V0.heap.size; omega), Below.heap_setCell _ _ _ _ (by show k ≠ V0.heap.size; omega), Below.heap_setCell _ _ _ _ (by show k ≠ V0.heap.size; omega)]))
            clear f0 y0 f1 y1 f2 y2 f3 y3 hbx hkX
            go_wp2
            go_meet
            exact ⟨(by first | trivial | rfl), x1o, x1n, x1c, x2o, x2n, x2c, x3o, x3n, x3c, hP.out.2.1, hPV, hP.out.2.2⟩
          case rest =>
            clear hX
            obtain ⟨he, x1o, x1n, x1c, x2o, x2n, x2c, x3o, x3n, x3c, hX, hXV, hXQ⟩ := hcut
            subst he
            have p0 := hXQ.out.c0
            have p1 := hXQ.out.c1
            have p2 := hXQ.out.c2
            have p3 := hXQ.out.c3
            clear KX hSS K1 K4 K5
            go_wp2_with fail
            refine (K3.out _ a0 b0 c0 X _ _ _ hX.out.d hXV.out hok.out (by have := hle.out; have := hQl.out; omega) (by have := hle.out; have := hQl.out; omega) (by have := hle.out; have := hQl.out; omega)).mono ?_
            rintro e w9 ⟨rfl, a9, b9, c9, hg9, hgc9, hf9⟩
            have hX9 := hide' (hX.out.frr hf9.out hg9.out)
            have hle9 := hide' (hgc9.out.le (by decide))
            rw [hcan.out]
            clear p0 p1 p2 p3 hX hXV hXQ hf9 hg9 hgc9 K3
            go_wp2
            exact ⟨⟨i + 1, a9, b9, c9, by omega, by go_num, hX9, by have := hle.out; have := hle9.out; show _ ∧ _ ∧ _; omega⟩, by simp [intOf]; omega⟩
        · obtain rfl : i = B.length := by omega
          clear hlt
          go_wp2
          go_ret
          exact ⟨rfl, hX.out.d.s.be⟩
end Go.Proofs.YtdcenbkminbpgaaDoor.S
